/-
  WALK: hammerpondlaw.LogSays.
-/
import Derived.Test.YtgkenknplepmeaaLsA
namespace Go.Proofs.Ytgkenknplepmeaa
open Go.RowKit Go.Sort

set_option maxHeartbeats 8000000 in
set_option maxRecDepth 100000 in
theorem logSays_any (A0 A4 : Option Addr) (n0 c0 n4 c4 : Nat) (fr mn fi : Int) (ss : List ByteArray) (l : List De) (w : World) (h0 : RdT w w.heap.size A0 n0 c0 ss) (h4 : RdD w w.heap.size A4 n4 c4 l)
    (hfr : -9223372036854775808 ≤ fr ∧ fr ≤ 9223372036854775807) (hmn : -9223372036854775808 ≤ mn ∧ mn ≤ 9223372036854775807) (hfi : -9223372036854775808 ≤ fi ∧ fi ≤ 9223372036854775807) :
    Calls Try.prog 5 #[.slice A0 n0 c0, .int .i64 fr, .int .i64 mn, .int .i64 fi, .slice A4 n4 c4] w (LySPost w) := by
  have HR0 := Lib.hid h0
  have HL0 := Lib.hid h0.1
  have HR4 := Lib.hid h4
  have HL4 := Lib.hid h4.1
  have z01 := h0.2.1
  have z02 := h0.2.2.1
  have z41 := h4.2.1
  have z42 := h4.2.2.1
  unfold maxLen at z02 z42
  obtain ⟨ti, hti, htz, hts, htb⟩ := str_info
  have TI := Lib.hid hti
  have TZ := Lib.hid htz
  have TS := Lib.hid hts
  have TB := Lib.hid htb
  clear hti htz hts htb
  obtain ⟨si, hsi, hsz, hss, hsb⟩ := slice_info
  have SI := Lib.hid hsi
  have SZ := Lib.hid hsz
  have SS := Lib.hid hss
  have SB := Lib.hid hsb
  clear hsi hsz hss hsb
  have HLG := Lib.hid (logs_any w)
  clear h0 h4
  go_enter Try.func5, Try.ntmps5
  go_wp2_with fail
  refine HLG.out.mono ?_
  rintro e w1 ⟨rfl, hb1⟩
  have HB1 := Lib.hid hb1
  have HT1 := Lib.hid (HR0.out.below hb1)
  have HD1 := Lib.hid (HR4.out.below hb1)
  clear hb1 HLG HR0
  by_cases h40 : 40 < n0
  · have z40 : (40 : Int) < (n0 : Int) := by omega
    go_wp2
    go_ret
    exact ⟨rfl, HB1.out⟩
  have z40 : decide ((40 : Int) < (n0 : Int)) = false := decide_eq_false (by omega)
  have HLD := Lib.hid (lightDeeds_any A4 n4 c4 l 20 w.heap.size w1 HD1.out (by omega))
  rw [show ((20 : Nat) : Int) = 20 from rfl] at HLD
  unfold LdPost at HLD
  go_wp2_with fail
  refine HLD.out.mono ?_
  rintro e w2 ⟨b, rfl, hlit, rfl⟩
  cases b with
  | false =>
    clear hlit
    go_wp2
    go_ret
    exact ⟨rfl, HB1.out⟩
  | true =>
    have HLIT := Lib.hid (hlit rfl)
    clear hlit HLD
    by_cases hf6 : 1000000 < fi
    · have z6 : (1000000 : Int) < fi := hf6
      go_wp2
      go_ret
      exact ⟨rfl, HB1.out⟩
    have z6 : decide ((1000000 : Int) < fi) = false := decide_eq_false hf6
    go_wp2
    go_loopw [12] (fun i wr => S1Rel w1 ss i wr) (fun i _ => n0 - (intOf i).toNat)
    case atStart => exact ⟨0, Nat.zero_le _, rfl, rfl, fun j s hj => absurd hj (Nat.not_lt_zero j)⟩
    case round =>
      obtain ⟨k, hk, rfl, rfl, hsm⟩ := hrel
      rw [HL0.out] at hk
      have HSM := Lib.hid hsm
      clear hsm
      by_cases hlt : k < n0
      · obtain ⟨s, hs⟩ : ∃ s, ss[k]? = some s := ⟨_, List.getElem?_eq_getElem (by rw [HL0.out]; exact hlt)⟩
        obtain ⟨b, off, rfl, hbb, y0⟩ := HT1.out.at_ hs
        have HS := Lib.hid hs
        have kz : (k : Int) < (n0 : Int) := by omega
        clear hs
        by_cases h34 : 340 < s.size
        · have z34 : (340 : Int) < (s.size : Int) := by omega
          go_wp2
          go_ret
          exact ⟨rfl, HB1.out⟩
        · have z34 : decide ((340 : Int) < (s.size : Int)) = false := decide_eq_false (by omega)
          go_wp2
          go_roundw
          case rel => exact ⟨k + 1, by rw [HL0.out]; omega, by go_num, rfl, idx_step HS.out HSM.out (by omega)⟩
          case measure => simp [intOf]; omega
      · obtain rfl : n0 = k := by omega
        have HS34 := Lib.hid (show ∀ s ∈ ss, s.size ≤ 340 from all_of_idx (fun j s hj hs => HSM.out j s (by rw [HL0.out] at hj; exact hj) hs))
        clear HSM hlt
        obtain ⟨N, hN⟩ : ∃ N : Nat, N = max 1 n0 := ⟨_, rfl⟩
        have hNz : max (1 : Int) (n0 : Int) = (N : Int) := by omega
        have hN1 : 1 ≤ N := by omega
        have hN2 : N ≤ 40 := by omega
        have hN3 : n0 ≤ N := by omega
        clear hN
        have HNW := Lib.hid (new_good N wr hN1 (by omega))
        unfold ptr at HNW
        go_wp2_with fail
        refine HNW.out.mono ?_
        rintro e w2 ⟨rfl, hd2, hb2⟩
        have hsz1 := HB1.out.size
        have HB2 := Lib.hid (HB1.out.trans (hb2.mono hsz1))
        have HT2 := Lib.hid (HT1.out.below (hb2.mono hsz1))
        have HD2 := Lib.hid (HD1.out.below (hb2.mono hsz1))
        have HST := Lib.hid (show S2Rel w2 wr.heap.size (wr.heap.size + 1) wr.heap.size N ss (.int .i64 0) w2 from ⟨0, _, newD N, Nat.zero_le _, rfl, hd2, new_goodD N, rfl, new_wok N _ (by rw [HL0.out]; omega), Below.refl _ _⟩)
        obtain ⟨base, hbase⟩ : ∃ base, base = wr.heap.size := ⟨_, rfl⟩
        rw [← hbase] at HST hsz1
        rw [← hbase]
        clear hd2 hb2 HNW HB1 HT1 HD1 hNz hbase
        go_wp2
        go_loopw [15] (fun i wx => S2Rel w2 base (base + 1) base N ss i wx) (fun i _ => n0 - (intOf i).toNat)
        case atStart => exact HST.out
        case round =>
          clear HST
          obtain ⟨k, V, D, hk, rfl, hd, hg, hDn, hw, hb⟩ := hrel
          rw [HL0.out] at hk hw
          have HD := Lib.hid hd
          have HG := Lib.hid hg
          have HW := Lib.hid hw
          have HB := Lib.hid hb
          clear hd hg hw hb
          by_cases hlt : k < n0
          · obtain ⟨s, hs⟩ : ∃ s, ss[k]? = some s := ⟨_, List.getElem?_eq_getElem (by rw [HL0.out]; exact hlt)⟩
            obtain ⟨b, off, rfl, hbb, y0⟩ := (HT2.out.below (HB.out.mono hsz1)).at_ hs
            have kz : (k : Int) < (n0 : Int) := by omega
            have hss := HS34.out s (List.mem_of_getElem? hs)
            have hkD : k < D.n := by omega
            have hwr := write_good base (base + 1) base k V D s _ HD.out hss hkD HG.out.range (fun x hx => by have := HW.out.bit k hkD x hx; omega) (by have := HW.out.len k hkD; have := HW.out.next; omega)
            have hok := HW.out
            rw [show n0 - k + 1 = (n0 - (k + 1) + 1) + 1 by omega] at hok
            have hok2 := hok.write hss hkD (by rw [HG.out.write hkD hss])
            rw [HG.out.write hkD hss] at hwr hok2
            rw [show erV (putD D k s, (0 : Int)).2 = .nilIface from rfl] at hwr
            unfold ptr at hwr
            have HWR := Lib.hid hwr
            have HOK := Lib.hid hok2
            clear hwr hok hok2 hs
            go_wp2_with fail
            refine HWR.out.mono ?_
            rintro e w3 ⟨rfl, hd3, hb3, ht3⟩
            have HD3 := Lib.hid hd3
            have HB3 := Lib.hid (HB.out.trans hb3)
            clear hd3 hb3 ht3 HWR y0
            go_wp2
            go_roundw
            case rel =>
              obtain ⟨V3, hd3⟩ := HD3.out
              exact ⟨k + 1, V3, putD D k s, by rw [HL0.out]; omega, by go_num, hd3, HG.out.put k s, hDn, by rw [HL0.out]; exact HOK.out, HB3.out⟩
            case measure => simp [intOf]; omega
          · obtain rfl : n0 = k := by omega
            clear hlt
            rw [show n0 - n0 + 1 = 1 by omega] at HW
            have HDN := Lib.hid hDn
            have hD40 : D.n ≤ 40 := by omega
            clear hDn
            have HBB := Lib.hid (HB2.out.trans (HB.out.mono hsz1))
            have HSC := Lib.hid (sectors_any base (base + 1) base V D wr HD.out)
            have HSE := Lib.hid (fun W => same_erV 1 (.inr (by omega)) W)
            rw [show erV 1 = .iface 96 (.int .i64 1) from rfl] at HSE
            unfold ptr at HSC
            by_cases q1 : fr < 0
            · have HOP := Lib.hid (open_bad base (base + 1) base V D fr mn fi wr HD.out hmn (by unfold opB; rw [decide_eq_false (by omega : ¬ 0 ≤ fr)]; rfl))
              unfold ptr at HOP
              go_wp2_with fail
              refine HOP.out.mono ?_
              rintro e w3 ⟨rfl, rfl⟩
              go_wp2_with fail
              refine (HSE.out _).mono ?_
              rintro e w3 ⟨rfl, rfl⟩
              go_wp2
              go_ret
              exact ⟨rfl, HBB.out⟩
            have e1 : decide (fr < 0) = false := decide_eq_false q1
            by_cases q2 : mn < 1
            · have HOP := Lib.hid (open_bad base (base + 1) base V D fr mn fi wr HD.out hmn (by unfold opB; rw [decide_eq_false (by omega : ¬ 1 ≤ mn)]; simp))
              unfold ptr at HOP
              go_wp2_with fail
              refine HOP.out.mono ?_
              rintro e w3 ⟨rfl, rfl⟩
              go_wp2_with fail
              refine (HSE.out _).mono ?_
              rintro e w3 ⟨rfl, rfl⟩
              go_wp2
              go_ret
              exact ⟨rfl, HBB.out⟩
            have e2 : decide (mn < 1) = false := decide_eq_false q2
            by_cases q3 : (D.n : Int) < mn
            · have HOP := Lib.hid (open_bad base (base + 1) base V D fr mn fi wr HD.out hmn (by unfold opB; rw [decide_eq_false (by omega : ¬ mn ≤ (D.n : Int))]; simp))
              unfold ptr at HOP
              go_wp2_with fail
              refine HOP.out.mono ?_
              rintro e w3 ⟨rfl, rfl⟩
              go_wp2_with fail
              refine HSC.out.mono ?_
              rintro e w3 ⟨rfl, rfl⟩
              go_wp2_with fail
              refine (HSE.out _).mono ?_
              rintro e w3 ⟨rfl, rfl⟩
              go_wp2
              go_ret
              exact ⟨rfl, HBB.out⟩
            have e3 : decide ((D.n : Int) < mn) = false := decide_eq_false q3
            have wzz : IntKind.i64.wrap ((D.n : Int) - mn) = (D.n : Int) - mn := by rw [IntKind.wrap_i64]; omega
            by_cases q4 : (D.n : Int) - mn < fr
            · have HOP := Lib.hid (open_bad base (base + 1) base V D fr mn fi wr HD.out hmn (by unfold opB; rw [decide_eq_false (by omega : ¬ fr ≤ (D.n : Int) - mn)]; simp))
              unfold ptr at HOP
              go_wp2_with fail
              refine HOP.out.mono ?_
              rintro e w3 ⟨rfl, rfl⟩
              go_wp2_with fail
              refine HSC.out.mono ?_
              rintro e w3 ⟨rfl, rfl⟩
              go_wp2_with fail
              refine HSC.out.mono ?_
              rintro e w3 ⟨rfl, rfl⟩
              go_wp2_with fail
              refine (HSE.out _).mono ?_
              rintro e w3 ⟨rfl, rfl⟩
              go_wp2
              go_ret
              exact ⟨rfl, HBB.out⟩
            have e4 : decide ((D.n : Int) - mn < fr) = false := decide_eq_false q4
            by_cases q5 : fi < 1
            · have HOP := Lib.hid (open_bad base (base + 1) base V D fr mn fi wr HD.out hmn (by unfold opB; rw [decide_eq_false (by omega : ¬ 1 ≤ fi)]; simp))
              unfold ptr at HOP
              go_wp2_with fail
              refine HOP.out.mono ?_
              rintro e w3 ⟨rfl, rfl⟩
              go_wp2_with fail
              refine HSC.out.mono ?_
              rintro e w3 ⟨rfl, rfl⟩
              go_wp2_with fail
              refine HSC.out.mono ?_
              rintro e w3 ⟨rfl, rfl⟩
              go_wp2_with fail
              refine (HSE.out _).mono ?_
              rintro e w3 ⟨rfl, rfl⟩
              go_wp2
              go_ret
              exact ⟨rfl, HBB.out⟩
            have e5 : decide (fi < 1) = false := decide_eq_false q5
            obtain ⟨fr', rfl⟩ := Int.eq_ofNat_of_zero_le (show 0 ≤ fr by omega)
            obtain ⟨mn', rfl⟩ := Int.eq_ofNat_of_zero_le (show 0 ≤ mn by omega)
            obtain ⟨fi', rfl⟩ := Int.eq_ofNat_of_zero_le (show 0 ≤ fi by omega)
            have e3n : decide (D.n < mn') = false := decide_eq_false (by omega)
            obtain ⟨es0, u0, hrd0⟩ : ∃ es u, rdR (nowF D fr') fi' mn' 0 [] [] 0 = (es, u) := ⟨_, _, rfl⟩
            have HRD0 := Lib.hid hrd0
            have HOP := Lib.hid (open_kp w.heap.size base (base + 1) base fr' mn' fi' V D wr HD.out HG.out.down (by omega) (by omega) (by omega) (by omega) hrd0)
            have HSZ := Lib.hid (fun (i : Nat) (hi : i < mn') => show (nowF D fr' i).size = 340 from nowB_size HD.out (show fr' + i < D.n by omega))
            unfold ptr at HOP
            have hfm : fr' + mn' ≤ N := by have := HDN.out; omega
            clear hrd0
            go_wp2_with fail
            refine HOP.out.mono ?_
            rintro e w3 ⟨Ag, cg, rfl, hkg, hl3, hb3⟩
            have HKG := Lib.hid hkg
            have HL3 := Lib.hid hl3
            have HD3 := Lib.hid (HD.out.keep fun _ _ hk => hb3.block _ hk)
            have HSC3 := Lib.hid (sectors_any base (base + 1) base V D w3 HD3.out)
            have hbx : base + 1 < wr.heap.size := HD.out.ltp
            have HB3 := Lib.hid (HB.out.trans (hb3.mono (by omega)))
            have HBB3 := Lib.hid (HBB.out.trans (hb3.mono HBB.out.size))
            have hs3 := hb3.size
            unfold ptr at HSC3
            clear hkg hl3 hb3 HOP HSC HBB
            go_wp2_with fail
            refine HSC3.out.mono ?_
            rintro e w4 ⟨rfl, rfl⟩
            go_wp2_with fail
            refine HSC3.out.mono ?_
            rintro e w4 ⟨rfl, rfl⟩
            have hpl3 : base + 1 < wr.heap.size := hbx
            obtain ⟨pl, hpl⟩ : ∃ pl, pl = wr.heap.size := ⟨_, rfl⟩
            rw [← hpl] at HL3 hpl3
            rw [← hpl]
            clear hpl HSC3 hbx
            go_wp2
            go_loopw [18, 19, 20, 21] (fun v18 i _ _ wx => S3Rel w3 (nowF D fr') mn' v18 i wx) (fun _ i _ _ _ => mn' - (intOf i).toNat)
            case atStart => exact ⟨0, Nat.zero_le _, rfl, World.ownsRow_nil _ _ _ _, Below.refl _ _⟩
            case round =>
              obtain ⟨k, hk, rfl, hown, hb⟩ := hrel
              have HO := Lib.hid hown
              have HB := Lib.hid hb
              clear hown hb
              by_cases hlt : k < mn'
              · have kz : (k : Int) < (mn' : Int) := by omega
                have hrd := read_any base (base + 1) base V D ((fr' + k : Nat) : Int) wr (HD3.out.keep fun _ _ hk => HB.out.block _ hk)
                rw [readR_up HG.out.down (show fr' + k < D.n by omega)] at hrd
                rw [show nowB (D.sec (fr' + k)) = nowF D fr' k from rfl, show ((fr' + k : Nat) : Int) = (fr' : Int) + (k : Int) by omega] at hrd
                unfold ptr at hrd
                have HRD := Lib.hid hrd
                clear hrd
                obtain ⟨s, hs⟩ : ∃ s, s = nowF D fr' k := ⟨_, rfl⟩
                rw [← hs] at HRD
                have HSS := Lib.hid hs
                clear hs
                go_wp2_with fail
                refine HRD.out.mono ?_
                rintro e w5 ⟨rfl, hb5⟩
                have HO5 := Lib.hid (own_step HO.out hb5)
                have HB5 := Lib.hid (HB.out.trans (hb5.mono HB.out.size))
                clear hb5 HRD HO HB
                go_wp2_with (at_builtin; refine wpList_append_rd _ rfl (.tmp 148) (.tmp 150) _ rfl w3.heap.size tStr ti _ 1 16 Try.underlying47 TI.out TZ.out TS.out TB.out rfl (by omega) _ _ _ rfl (own_upG HO5.out _) _ 1 1 _ rfl (rdx_str w5 s) ?_ ?_ ?_ ?_)
                · unfold maxLen; omega
                · omega
                · exact Nat.le_trans HB5.out.size (by simp)
                intro v6 w6 hown6 hg6 _
                have HB6 := Lib.hid ((HB5.out.alloc HB5.out.size _).grown hg6 (Nat.le_trans HB5.out.size (by simp)) (fun g' hg' => (HO5.out.lt g' hg').1))
                have HO6 := Lib.hid hown6
                clear hown6 hg6
                go_wp2
                go_roundw
                case rel => exact ⟨k + 1, by omega, by go_num, by rw [List.range_succ, List.map_append, scells_append]; rw [HSS.out] at HO6; exact HO6.out, HB6.out⟩
                case measure => simp [intOf]; omega
              · obtain rfl : mn' = k := by omega
                clear hlt
                obtain ⟨g, cap, cur, rfl, hg1, hg2, hg3, hg4, hg5, hg6⟩ := own_some HO.out (by omega)
                have hbl : Blk wr pl tLog #[ptr (base + 1), .int .i64 fr', .int .i64 mn', .int .i64 fi', .int .i64 u0] := (HB.out.block pl HL3.out.lt).trans HL3.out
                have hcells : ∀ i, i < mn' → cur[0 + i]? = some (.string (nowF D fr' i)) ∧ (nowF D fr' i).size = 340 := fun i hi => by
                  refine ⟨?_, HSZ.out i hi⟩
                  have h8 := range_at (nowF D fr') hi
                  rw [← hg6, List.getElem?_take] at h8
                  split at h8
                  · rw [Nat.zero_add, ← Array.getElem?_toList]; exact h8
                  · cases h8
                have HCD := Lib.hid (closed_any pl (base + 1) fr' mn' fi' u0 g 0 cap mn' fi' cur (nowF D fr') wr hbl (fun _ => ⟨hg2, hcells⟩) (by omega) (by omega))
                clear hcells
                unfold CdPost at HCD
                rw [HRD0.out] at HCD
                have HBL := Lib.hid hbl
                have HDr := Lib.hid (HD3.out.keep fun _ _ hk => HB.out.block _ hk)
                have HBr := Lib.hid (HBB3.out.trans (HB.out.mono HBB3.out.size))
                have HKr := Lib.hid (HKG.out.keep (Fr.of_below HB.out HBB3.out.size))
                clear hg1 hg2 hg3 hg4 hg5 hg6 hbl HO HB HL3 HD3 HBB3 HKG
                go_wp2_with fail
                refine HCD.out.mono ?_
                rintro e w6 ⟨v, v5, cs, rfl, hst⟩
                have HB6 : Hid (Below w.heap.size w w6) := HBr.out.trans (hst.upd.below HBr.out.size (fun k hk => by omega))
                obtain ⟨Aw, cw, rfl, hkw⟩ := kpE_of_lgst w.heap.size hst
                have HKW := Lib.hid hkw
                have HKG := Lib.hid (HKr.out.keep (Fr.of_upd hst.upd HBL.out (by omega)))
                have HLS : Hid (LsSt w w6 base pl fr' mn' fi' N D u0 es0) := ⟨HB6.out, ⟨V, HDr.out.otherL HBL.out hst.upd⟩, hst.log, by omega, HG.out, HW.out, HDN.out, HRD0.out⟩
                have HST : Hid (S4Rel w base fr' mn' fi' N n4 (ptr pl) (.slice Ag es0.length cg) (.slice Aw es0.length cw) (.int .i64 u0) (.int .i64 0) w6) := ⟨0, pl, u0, es0, D, Ag, cg, Aw, cw, Nat.zero_le _, rfl, rfl, rfl, rfl, rfl, HLS.out, HKG.out, HKW.out⟩
                clear hst hkw HCD HBL HDr HBr HKr HB6 HKW HKG HLS HSZ HRD0 HG HW
                unfold ptr at HST
                go_wp2
                go_loopw [14, 16, 17, 22, 23, 24, 25, 26, 27] (fun _ v16 v17 v22 v23 v24 _ _ _ wx => S4Rel w base fr' mn' fi' N n4 v16 v17 v22 v23 v24 wx) (fun _ _ _ _ _ v24 _ _ _ _ => n4 + 1 - (intOf v24).toNat)
                case atStart => exact HST.out
                case round =>
                  clear HST
                  obtain ⟨k, pl, u, want, D, Ag, cg, Aw, cw, hk, rfl, rfl, rfl, rfl, rfl, hls, hkg, hkw⟩ := hrel
                  have hdn : fr' + mn' ≤ D.n := by rw [hls.dn]; exact hfm
                  have hwl : want.length ≤ mn' := by have := rdR_len (f := nowF D fr') (first := fi') mn' 0 [] [] 0; rw [hls.rd] at this; simpa using this
                  have hu : u ≤ mn' := (rdR_end _ _ _ _ hls.rd (fun _ _ => rfl)).1
                  have HLS := Lib.hid hls
                  have HSD := Lib.hid (sameD_gen Ag Aw want.length want.length cg cw _ _ want want wr hkg.rd hkw.rd true ⟨fun _ => rfl, fun _ => rfl⟩)
                  have HRM := Lib.hid (fun q => room_any pl (base + 1) fr' mn' fi' u (wr.drewN q) hls.log (by omega) (by omega))
                  have HNX := Lib.hid (fun q => next_any pl (base + 1) fr' mn' fi' u (wr.drewN q) hls.log (by omega) (by omega))
                  have HKG := Lib.hid hkg
                  have HKW := Lib.hid hkw
                  unfold ScPost at HSD
                  unfold ptr at *
                  clear hls hkg hkw
                  have kz : (k : Int) ≤ (n4 : Int) := by omega
                  go_wp2_with fail
                  refine HSD.out.mono ?_
                  rintro e w5 ⟨rfl, q, rfl⟩
                  go_wp2_with fail
                  refine (HRM.out _).mono ?_
                  rintro e w5 ⟨rfl, q', rfl⟩
                  go_wp2_with fail
                  refine (HNX.out _).mono ?_
                  rintro e w5 ⟨rfl, q3, rfl⟩
                  have HL5 := Lib.hid (HLS.out.below (below_drewN (Below.refl _ _) (q + q' + q3)))
                  have HKG5 := Lib.hid (HKG.out.keep ((Fr.refl w.heap.size wr).drewN (q + q' + q3)))
                  have HKW5 := Lib.hid (HKW.out.keep ((Fr.refl w.heap.size wr).drewN (q + q' + q3)))
                  clear HLS HKG HKW HSD HRM HNX
                  by_cases hkm : k = n4
                  · have hkz : ((k : Int) == (n4 : Int)) = true := by rw [hkm]; simp
                    go_wp2
                    go_ret
                    exact ⟨rfl, HL5.out.bel⟩
                  have hkz : ((k : Int) == (n4 : Int)) = false := by rw [beq_eq_false_iff_ne]; omega
                  have kz2 : (k : Int) < (n4 : Int) := by omega
                  obtain ⟨f, hf⟩ : ∃ f, l[k]? = some f := ⟨_, List.getElem?_eq_getElem (by rw [HL4.out]; omega)⟩
                  have HFL := Lib.hid ((HLIT.out.2 f (List.mem_of_getElem? hf)).2.2)
                  obtain ⟨b', off, hA4, hbb, y0, y1, y2, y3, y4, y5, hrc, -, -⟩ := (HR4.out.below HL5.out.bel).at_ hf
                  have HRC := Lib.hid hrc
                  subst hA4
                  clear hf hrc
                  have hu5 : w.heap.size ≤ wr.heap.size := HL5.out.bel.size
                  generalize hw5 : wr.drewN (q + q' + q3) = w5 at *
                  have hz5 : w.heap.size ≤ w5.heap.size := by rw [← hw5]; exact hu5

                  have hx6 := Blk.new w5 tDe #[.string f.kind, .string f.s, .string f.t, .int .i64 f.a, .int .u64 f.k, .slice f.A f.n f.c]
                  have x0 := hx6.cell 0
                  have x5 := hx6.cell 5
                  have HX6 := Lib.hid hx6
                  have hb6 : Below w5.heap.size w5 (w5.alloc (.cells #[.string f.kind, .string f.s, .string f.t, .int .i64 f.a, .int .u64 f.k, .slice f.A f.n f.c] tDe)) := (Below.refl _ _).alloc (Nat.le_refl _) _
                  have HL6 := Lib.hid (HL5.out.below hb6)
                  have HKG6 := Lib.hid (HKG5.out.keep (Fr.of_below hb6 hz5))
                  have HKW6 := Lib.hid (HKW5.out.keep (Fr.of_below hb6 hz5))
                  have HRC6 := Lib.hid (HRC.out.below (hb6.mono hz5))
                  have hz6 : w.heap.size ≤ (w5.alloc (.cells #[.string f.kind, .string f.s, .string f.t, .int .i64 f.a, .int .u64 f.k, .slice f.A f.n f.c] tDe)).heap.size := Nat.le_trans hz5 hb6.size
                  have hfn : f.n ≤ 50 := by have := HFL.out.1; have := HRC.out.1; omega
                  clear hx6 hb6 HL5 HKG5 HKW5 HRC
                  by_cases hadd : f.kind.toList = [97, 100, 100]
                  · have hab : (f.kind.toList == [97, 100, 100]) = true := by rw [hadd]; rfl
                    clear hadd

                    by_cases h41 : 40 < f.n
                    · have z41 : (40 : Int) < (f.n : Int) := by omega
                      go_wp2
                      go_loopw [26, 27] (fun v26 v27 wx => S5C (w5.alloc (.cells #[.string f.kind, .string f.s, .string f.t, .int .i64 f.a, .int .u64 f.k, .slice f.A f.n f.c] tDe)) 2 v26 v27 wx) (fun _ _ _ => 0)
                      case atStart => exact ⟨rfl, rfl, rfl⟩
                      case round =>
                        obtain ⟨rfl, rfl, rfl⟩ := hrel
                        have HBx := Lib.hid (Below.refl (w5.alloc (.cells #[.string f.kind, .string f.s, .string f.t, .int .i64 f.a, .int .u64 f.k, .slice f.A f.n f.c] tDe)).heap.size (w5.alloc (.cells #[.string f.kind, .string f.s, .string f.t, .int .i64 f.a, .int .u64 f.k, .slice f.A f.n f.c] tDe)))
                        have HFV : Hid (FvOk mn' u f.ch 2) := .inl ⟨by rw [HRC6.out.1]; exact h41, rfl⟩
                        have jz : (0 : Int) < (f.n : Int) := by omega

                        have HLr := Lib.hid (HL6.out.below HBx.out)
                        have HKGr := Lib.hid (HKG6.out.keep (Fr.of_below HBx.out hz6))
                        have HKWr := Lib.hid (HKW6.out.keep (Fr.of_below HBx.out hz6))
                        have HRCr := Lib.hid (HRC6.out.below (HBx.out.mono hz6))
                        have hzr : w.heap.size ≤ (w5.alloc (.cells #[.string f.kind, .string f.s, .string f.t, .int .i64 f.a, .int .u64 f.k, .slice f.A f.n f.c] tDe)).heap.size := Nat.le_trans hz6 HBx.out.size
                        have HXr : Hid (Blk (w5.alloc (.cells #[.string f.kind, .string f.s, .string f.t, .int .i64 f.a, .int .u64 f.k, .slice f.A f.n f.c] tDe)) w5.heap.size tDe #[.string f.kind, .string f.s, .string f.t, .int .i64 f.a, .int .u64 f.k, .slice f.A f.n f.c]) := (HBx.out.block _ HX6.out.lt).trans HX6.out
                        have xr5 := HXr.out.cell 5
                        have HAD : Hid (Calls Try.prog 46 #[ptr pl, .slice f.A f.n f.c] (w5.alloc (.cells #[.string f.kind, .string f.s, .string f.t, .int .i64 f.a, .int .u64 f.k, .slice f.A f.n f.c] tDe)) (LaPost (w5.alloc (.cells #[.string f.kind, .string f.s, .string f.t, .int .i64 f.a, .int .u64 f.k, .slice f.A f.n f.c] tDe)) base (base + 1) base pl D fr' mn' fi' u f.ch)) := by
                          obtain ⟨V, hd⟩ := HLr.out.dk
                          exact logAdd_any pl base (base + 1) base fr' mn' fi' u f.A f.n f.c f.ch V D (w5.alloc (.cells #[.string f.kind, .string f.s, .string f.t, .int .i64 f.a, .int .u64 f.k, .slice f.A f.n f.c] tDe)) HLr.out.log hd (HRCr.out.more hzr) HFL.out.2 (by omega) hdn (by omega) hu HLr.out.wok HLr.out.hpl
                        unfold LaPost ptr at HAD
                        go_wp2_with fail
                        refine HAD.out.mono ?_
                        rintro e w8 ⟨er, D', u', rfl, hla, hd8, hl8, hb8, ht8⟩
                        have HFR := Lib.hid (Fr.of_tyx ht8 (hb8.mono hsz1) HLr.out.log)
                        have HBL8 := Lib.hid (HLr.out.bel.trans (hb8.mono hsz1))
                        have HD8 := Lib.hid hd8
                        have HL8 := Lib.hid hl8
                        have HX8 := Lib.hid (ht8 _ tDe _ HXr.out (by decide) (by decide) (by decide) (HXr.out.ne HLr.out.log (by decide)))
                        clear hd8 hl8 hb8 ht8 xr5

                        obtain ⟨hfo, rfl, rfl⟩ : FvOk mn' u f.ch er ∧ D' = D ∧ u' = u := by
                          rcases hla.good HLr.out.good HLr.out.wok hdn HLr.out.rd with h | ⟨_, h, _⟩
                          · exact h
                          · exact absurd h (HFV.out).not
                        obtain rfl : er = 2 := hfo.eq HFV.out
                        have HSM := Lib.hid (fun W => same_erV 2 (.inr (by omega)) W)
                        have hez : erV 2 = .iface 96 (.int .i64 2) := rfl
                        rw [hez] at HSM
                        rw [hez]
                        clear hfo hez hla
                        go_wp2_with fail
                        refine (HSM.out _).mono ?_
                        rintro e w9 ⟨rfl, rfl⟩
                        go_wp2
                        go_roundw
                        case rel => exact ⟨k + 1, pl, u', want, D', Ag, cg, Aw, cw, by omega, rfl, rfl, rfl, rfl, by go_num, ⟨HBL8.out, HD8.out, HL8.out, HLr.out.hpl, HLr.out.good, HLr.out.wok, HLr.out.dn, HLr.out.rd⟩, HKGr.out.keep HFR.out, HKWr.out.keep HFR.out⟩
                        case measure => simp [intOf]; omega
                    have z41 : decide ((40 : Int) < (f.n : Int)) = false := decide_eq_false (by omega)
                    by_cases hful : mn' < u + f.n + 1
                    · have zf : (mn' : Int) - (u : Int) < (f.n : Int) + 1 := by omega
                      go_wp2
                      go_loopw [26, 27] (fun v26 v27 wx => S5C (w5.alloc (.cells #[.string f.kind, .string f.s, .string f.t, .int .i64 f.a, .int .u64 f.k, .slice f.A f.n f.c] tDe)) 10 v26 v27 wx) (fun _ _ _ => 0)
                      case atStart => exact ⟨rfl, rfl, rfl⟩
                      case round =>
                        obtain ⟨rfl, rfl, rfl⟩ := hrel
                        have HBx := Lib.hid (Below.refl (w5.alloc (.cells #[.string f.kind, .string f.s, .string f.t, .int .i64 f.a, .int .u64 f.k, .slice f.A f.n f.c] tDe)).heap.size (w5.alloc (.cells #[.string f.kind, .string f.s, .string f.t, .int .i64 f.a, .int .u64 f.k, .slice f.A f.n f.c] tDe)))
                        have HFV : Hid (FvOk mn' u f.ch 10) := .inr (.inl ⟨by rw [HRC6.out.1]; omega, by rw [HRC6.out.1]; exact hful, rfl⟩)
                        by_cases hjn : 0 < f.n
                        · have jz : (0 : Int) < (f.n : Int) := by omega
                          have HLr := Lib.hid (HL6.out.below HBx.out)
                          have HKGr := Lib.hid (HKG6.out.keep (Fr.of_below HBx.out hz6))
                          have HKWr := Lib.hid (HKW6.out.keep (Fr.of_below HBx.out hz6))
                          have HRCr := Lib.hid (HRC6.out.below (HBx.out.mono hz6))
                          have hzr : w.heap.size ≤ (w5.alloc (.cells #[.string f.kind, .string f.s, .string f.t, .int .i64 f.a, .int .u64 f.k, .slice f.A f.n f.c] tDe)).heap.size := Nat.le_trans hz6 HBx.out.size
                          have HXr : Hid (Blk (w5.alloc (.cells #[.string f.kind, .string f.s, .string f.t, .int .i64 f.a, .int .u64 f.k, .slice f.A f.n f.c] tDe)) w5.heap.size tDe #[.string f.kind, .string f.s, .string f.t, .int .i64 f.a, .int .u64 f.k, .slice f.A f.n f.c]) := (HBx.out.block _ HX6.out.lt).trans HX6.out
                          have xr5 := HXr.out.cell 5
                          have HAD : Hid (Calls Try.prog 46 #[ptr pl, .slice f.A f.n f.c] (w5.alloc (.cells #[.string f.kind, .string f.s, .string f.t, .int .i64 f.a, .int .u64 f.k, .slice f.A f.n f.c] tDe)) (LaPost (w5.alloc (.cells #[.string f.kind, .string f.s, .string f.t, .int .i64 f.a, .int .u64 f.k, .slice f.A f.n f.c] tDe)) base (base + 1) base pl D fr' mn' fi' u f.ch)) := by
                            obtain ⟨V, hd⟩ := HLr.out.dk
                            exact logAdd_any pl base (base + 1) base fr' mn' fi' u f.A f.n f.c f.ch V D (w5.alloc (.cells #[.string f.kind, .string f.s, .string f.t, .int .i64 f.a, .int .u64 f.k, .slice f.A f.n f.c] tDe)) HLr.out.log hd (HRCr.out.more hzr) HFL.out.2 (by omega) hdn (by omega) hu HLr.out.wok HLr.out.hpl
                          unfold LaPost ptr at HAD
                          go_wp2_with fail
                          refine HAD.out.mono ?_
                          rintro e w8 ⟨er, D', u', rfl, hla, hd8, hl8, hb8, ht8⟩
                          have HFR := Lib.hid (Fr.of_tyx ht8 (hb8.mono hsz1) HLr.out.log)
                          have HBL8 := Lib.hid (HLr.out.bel.trans (hb8.mono hsz1))
                          have HD8 := Lib.hid hd8
                          have HL8 := Lib.hid hl8
                          have HX8 := Lib.hid (ht8 _ tDe _ HXr.out (by decide) (by decide) (by decide) (HXr.out.ne HLr.out.log (by decide)))
                          clear hd8 hl8 hb8 ht8 xr5

                          obtain ⟨hfo, rfl, rfl⟩ : FvOk mn' u f.ch er ∧ D' = D ∧ u' = u := by
                            rcases hla.good HLr.out.good HLr.out.wok hdn HLr.out.rd with h | ⟨_, h, _⟩
                            · exact h
                            · exact absurd h (HFV.out).not
                          obtain rfl : er = 10 := hfo.eq HFV.out
                          have HSM := Lib.hid (fun W => same_erV 10 (.inr (by omega)) W)
                          have hez : erV 10 = .iface 96 (.int .i64 10) := rfl
                          rw [hez] at HSM
                          rw [hez]
                          clear hfo hez hla
                          go_wp2_with fail
                          refine (HSM.out _).mono ?_
                          rintro e w9 ⟨rfl, rfl⟩
                          go_wp2
                          go_roundw
                          case rel => exact ⟨k + 1, pl, u', want, D', Ag, cg, Aw, cw, by omega, rfl, rfl, rfl, rfl, by go_num, ⟨HBL8.out, HD8.out, HL8.out, HLr.out.hpl, HLr.out.good, HLr.out.wok, HLr.out.dn, HLr.out.rd⟩, HKGr.out.keep HFR.out, HKWr.out.keep HFR.out⟩
                          case measure => simp [intOf]; omega
                        · have jn : f.n = 0 := by omega
                          have jz : decide ((0 : Int) < (f.n : Int)) = false := decide_eq_false (by omega)
                          have JN := Lib.hid jn
                          clear jn
                          have HLr := Lib.hid (HL6.out.below HBx.out)
                          have HKGr := Lib.hid (HKG6.out.keep (Fr.of_below HBx.out hz6))
                          have HKWr := Lib.hid (HKW6.out.keep (Fr.of_below HBx.out hz6))
                          have HRCr := Lib.hid (HRC6.out.below (HBx.out.mono hz6))
                          have hzr : w.heap.size ≤ (w5.alloc (.cells #[.string f.kind, .string f.s, .string f.t, .int .i64 f.a, .int .u64 f.k, .slice f.A f.n f.c] tDe)).heap.size := Nat.le_trans hz6 HBx.out.size
                          have HXr : Hid (Blk (w5.alloc (.cells #[.string f.kind, .string f.s, .string f.t, .int .i64 f.a, .int .u64 f.k, .slice f.A f.n f.c] tDe)) w5.heap.size tDe #[.string f.kind, .string f.s, .string f.t, .int .i64 f.a, .int .u64 f.k, .slice f.A f.n f.c]) := (HBx.out.block _ HX6.out.lt).trans HX6.out
                          have xr5 := HXr.out.cell 5
                          have HAD : Hid (Calls Try.prog 46 #[ptr pl, .slice f.A f.n f.c] (w5.alloc (.cells #[.string f.kind, .string f.s, .string f.t, .int .i64 f.a, .int .u64 f.k, .slice f.A f.n f.c] tDe)) (LaPost (w5.alloc (.cells #[.string f.kind, .string f.s, .string f.t, .int .i64 f.a, .int .u64 f.k, .slice f.A f.n f.c] tDe)) base (base + 1) base pl D fr' mn' fi' u f.ch)) := by
                            obtain ⟨V, hd⟩ := HLr.out.dk
                            exact logAdd_any pl base (base + 1) base fr' mn' fi' u f.A f.n f.c f.ch V D (w5.alloc (.cells #[.string f.kind, .string f.s, .string f.t, .int .i64 f.a, .int .u64 f.k, .slice f.A f.n f.c] tDe)) HLr.out.log hd (HRCr.out.more hzr) HFL.out.2 (by omega) hdn (by omega) hu HLr.out.wok HLr.out.hpl
                          unfold LaPost ptr at HAD
                          go_wp2_with fail
                          refine HAD.out.mono ?_
                          rintro e w8 ⟨er, D', u', rfl, hla, hd8, hl8, hb8, ht8⟩
                          have HFR := Lib.hid (Fr.of_tyx ht8 (hb8.mono hsz1) HLr.out.log)
                          have HBL8 := Lib.hid (HLr.out.bel.trans (hb8.mono hsz1))
                          have HD8 := Lib.hid hd8
                          have HL8 := Lib.hid hl8
                          have HX8 := Lib.hid (ht8 _ tDe _ HXr.out (by decide) (by decide) (by decide) (HXr.out.ne HLr.out.log (by decide)))
                          clear hd8 hl8 hb8 ht8 xr5

                          obtain ⟨hfo, rfl, rfl⟩ : FvOk mn' u f.ch er ∧ D' = D ∧ u' = u := by
                            rcases hla.good HLr.out.good HLr.out.wok hdn HLr.out.rd with h | ⟨_, h, _⟩
                            · exact h
                            · exact absurd h (HFV.out).not
                          obtain rfl : er = 10 := hfo.eq HFV.out
                          have HSM := Lib.hid (fun W => same_erV 10 (.inr (by omega)) W)
                          have hez : erV 10 = .iface 96 (.int .i64 10) := rfl
                          rw [hez] at HSM
                          rw [hez]
                          clear hfo hez hla
                          go_wp2_with fail
                          refine (HSM.out _).mono ?_
                          rintro e w9 ⟨rfl, rfl⟩
                          go_wp2
                          go_roundw
                          case rel => exact ⟨k + 1, pl, u', want, D', Ag, cg, Aw, cw, by omega, rfl, rfl, rfl, rfl, by go_num, ⟨HBL8.out, HD8.out, HL8.out, HLr.out.hpl, HLr.out.good, HLr.out.wok, HLr.out.dn, HLr.out.rd⟩, HKGr.out.keep HFR.out, HKWr.out.keep HFR.out⟩
                          case measure => simp [intOf]; omega
                    have zf : decide ((mn' : Int) - (u : Int) < (f.n : Int) + 1) = false := decide_eq_false (by omega)
                    go_wp2
                    go_loopw [26, 27] (fun v26 v27 wx => S5Rel (w5.alloc (.cells #[.string f.kind, .string f.s, .string f.t, .int .i64 f.a, .int .u64 f.k, .slice f.A f.n f.c] tDe)) mn' u f.ch v26 v27 wx) (fun _ v27 _ => f.n - (intOf v27).toNat)
                    case atStart => exact ⟨0, 0, Nat.zero_le _, rfl, rfl, fun h => absurd rfl h, fun _ => ⟨by rw [HRC6.out.1]; omega, by rw [HRC6.out.1]; omega, fun i d hi => absurd hi (Nat.not_lt_zero i)⟩, Below.refl _ _⟩
                    case round =>
                      obtain ⟨j, fv, hj, rfl, rfl, hfv, hf0, hbx⟩ := hrel
                      rw [HRC6.out.1] at hj
                      have HBx := Lib.hid hbx
                      have HFV0 := Lib.hid hfv
                      have HF0 := Lib.hid hf0
                      clear hbx hfv hf0
                      have xk5 : wr.cell? ⟨w5.heap.size, 5, none⟩ = some (.slice f.A f.n f.c) := ((show Blk wr w5.heap.size tDe #[.string f.kind, .string f.s, .string f.t, .int .i64 f.a, .int .u64 f.k, .slice f.A f.n f.c] from (HBx.out.block _ HX6.out.lt).trans HX6.out)).cell 5
                      by_cases hjn : j < f.n
                      · have jz : (j : Int) < (f.n : Int) := by omega
                        by_cases hz : fv = 0
                        · subst hz
                          have hf0 := HF0.out rfl
                          obtain ⟨c, hc⟩ : ∃ c, f.ch[j]? = some c := ⟨_, List.getElem?_eq_getElem (by rw [HRC6.out.1]; exact hjn)⟩
                          obtain ⟨bc, offc, hAc, hbc, p0, p1, p2⟩ := (HRC6.out.below (HBx.out.mono hz6)).at_ hc
                          have hcs := HFL.out.2 c (List.mem_of_getElem? hc)
                          have HCF := Lib.hid (changeFault_all c wr (by omega))
                          unfold Ch.v at HCF
                          have HHC := Lib.hid hc
                          have HHF := Lib.hid hf0
                          obtain ⟨fA, hfA⟩ : ∃ fA, fA = f.A := ⟨_, rfl⟩
                          rw [hAc] at xk5
                          have HAc := Lib.hid hAc
                          clear hc hf0 HFV0 HF0 hfA hAc
                          go_wp2_with fail
                          refine HCF.out.mono ?_
                          rintro e w7 ⟨rfl, ob, rfl⟩
                          have HB7 := Lib.hid (HBx.out.alloc HBx.out.size ob)
                          clear HCF
                          go_wp2
                          go_roundw
                          case rel => exact ⟨j + 1, ckR c, by rw [HRC6.out.1]; omega, by go_num, rfl, fun h => .inr (.inr ⟨HHF.out.1, HHF.out.2.1, j, c, HHC.out, h, HHF.out.2.2, rfl⟩), fun h => ⟨HHF.out.1, HHF.out.2.1, idx_step HHC.out HHF.out.2.2 h⟩, HB7.out⟩
                          case measure => simp [intOf]; omega
                        · have fz : (fv == 0) = false := by rw [beq_eq_false_iff_ne]; exact hz
                          have HFV := Lib.hid (HFV0.out hz)
                          clear HFV0 HF0
                          have HLr := Lib.hid (HL6.out.below HBx.out)
                          have HKGr := Lib.hid (HKG6.out.keep (Fr.of_below HBx.out hz6))
                          have HKWr := Lib.hid (HKW6.out.keep (Fr.of_below HBx.out hz6))
                          have HRCr := Lib.hid (HRC6.out.below (HBx.out.mono hz6))
                          have hzr : w.heap.size ≤ wr.heap.size := Nat.le_trans hz6 HBx.out.size
                          have HXr : Hid (Blk wr w5.heap.size tDe #[.string f.kind, .string f.s, .string f.t, .int .i64 f.a, .int .u64 f.k, .slice f.A f.n f.c]) := (HBx.out.block _ HX6.out.lt).trans HX6.out
                          have xr5 := HXr.out.cell 5
                          have HAD : Hid (Calls Try.prog 46 #[ptr pl, .slice f.A f.n f.c] wr (LaPost wr base (base + 1) base pl D fr' mn' fi' u f.ch)) := by
                            obtain ⟨V, hd⟩ := HLr.out.dk
                            exact logAdd_any pl base (base + 1) base fr' mn' fi' u f.A f.n f.c f.ch V D wr HLr.out.log hd (HRCr.out.more hzr) HFL.out.2 (by omega) hdn (by omega) hu HLr.out.wok HLr.out.hpl
                          unfold LaPost ptr at HAD
                          go_wp2_with fail
                          refine HAD.out.mono ?_
                          rintro e w8 ⟨er, D', u', rfl, hla, hd8, hl8, hb8, ht8⟩
                          have HFR := Lib.hid (Fr.of_tyx ht8 (hb8.mono hsz1) HLr.out.log)
                          have HBL8 := Lib.hid (HLr.out.bel.trans (hb8.mono hsz1))
                          have HD8 := Lib.hid hd8
                          have HL8 := Lib.hid hl8
                          have HX8 := Lib.hid (ht8 _ tDe _ HXr.out (by decide) (by decide) (by decide) (HXr.out.ne HLr.out.log (by decide)))
                          clear hd8 hl8 hb8 ht8 xr5

                          obtain ⟨hfo, rfl, rfl⟩ : FvOk mn' u f.ch er ∧ D' = D ∧ u' = u := by
                            rcases hla.good HLr.out.good HLr.out.wok hdn HLr.out.rd with h | ⟨_, h, _⟩
                            · exact h
                            · exact absurd h (HFV.out).not
                          obtain rfl : er = fv := hfo.eq HFV.out
                          have hpos := hfo.pos
                          have HSM := Lib.hid (fun W => same_erV er (.inr hpos) W)
                          have hez : erV er = .iface 96 (.int .i64 er) := if_neg (by omega)
                          rw [hez] at HSM
                          rw [hez]
                          clear hfo hez hla
                          have hz0 : (er == 0) = false := by rw [beq_eq_false_iff_ne]; omega
                          go_wp2_with fail
                          refine (HSM.out _).mono ?_
                          rintro e w9 ⟨rfl, rfl⟩
                          go_wp2
                          go_roundw
                          case rel => exact ⟨k + 1, pl, u', want, D', Ag, cg, Aw, cw, by omega, rfl, rfl, rfl, rfl, by go_num, ⟨HBL8.out, HD8.out, HL8.out, HLr.out.hpl, HLr.out.good, HLr.out.wok, HLr.out.dn, HLr.out.rd⟩, HKGr.out.keep HFR.out, HKWr.out.keep HFR.out⟩
                          case measure => simp [intOf]; omega
                      · obtain rfl : j = f.n := by omega
                        by_cases hz : fv = 0
                        · subst hz
                          have HNO : Hid (NoFv mn' u f.ch) := ⟨(HF0.out rfl).1, (HF0.out rfl).2.1, all_of_idx fun i d hi hd => (HF0.out rfl).2.2 i d (by rw [HRC6.out.1] at hi; exact hi) hd⟩
                          clear HFV0 HF0
                          have HLr := Lib.hid (HL6.out.below HBx.out)
                          have HKGr := Lib.hid (HKG6.out.keep (Fr.of_below HBx.out hz6))
                          have HKWr := Lib.hid (HKW6.out.keep (Fr.of_below HBx.out hz6))
                          have HRCr := Lib.hid (HRC6.out.below (HBx.out.mono hz6))
                          have hzr : w.heap.size ≤ wr.heap.size := Nat.le_trans hz6 HBx.out.size
                          have HXr : Hid (Blk wr w5.heap.size tDe #[.string f.kind, .string f.s, .string f.t, .int .i64 f.a, .int .u64 f.k, .slice f.A f.n f.c]) := (HBx.out.block _ HX6.out.lt).trans HX6.out
                          have xr5 := HXr.out.cell 5
                          have HAD : Hid (Calls Try.prog 46 #[ptr pl, .slice f.A f.n f.c] wr (LaPost wr base (base + 1) base pl D fr' mn' fi' u f.ch)) := by
                            obtain ⟨V, hd⟩ := HLr.out.dk
                            exact logAdd_any pl base (base + 1) base fr' mn' fi' u f.A f.n f.c f.ch V D wr HLr.out.log hd (HRCr.out.more hzr) HFL.out.2 (by omega) hdn (by omega) hu HLr.out.wok HLr.out.hpl
                          unfold LaPost ptr at HAD
                          go_wp2_with fail
                          refine HAD.out.mono ?_
                          rintro e w8 ⟨er, D', u', rfl, hla, hd8, hl8, hb8, ht8⟩
                          have HFR := Lib.hid (Fr.of_tyx ht8 (hb8.mono hsz1) HLr.out.log)
                          have HBL8 := Lib.hid (HLr.out.bel.trans (hb8.mono hsz1))
                          have HD8 := Lib.hid hd8
                          have HL8 := Lib.hid hl8
                          have HX8 := Lib.hid (ht8 _ tDe _ HXr.out (by decide) (by decide) (by decide) (HXr.out.ne HLr.out.log (by decide)))
                          clear hd8 hl8 hb8 ht8 xr5

                          obtain ⟨rfl, hno, rfl, hgd, hwk, hdn8, hrd8⟩ : er = 0 ∧ NoFv mn' u f.ch ∧ u' = u + f.ch.length + 1 ∧ Good D' ∧ (∀ k, k < 64 → WOk D' k) ∧ D'.n = D.n ∧ rdR (nowF D' fr') fi' mn' 0 [] [] 0 = (want ++ [f.ch], u + f.ch.length + 1) := by
                            rcases hla.good HLr.out.good HLr.out.wok hdn HLr.out.rd with h | h
                            · exact absurd HNO.out h.1.not
                            · exact h
                          have HSM := Lib.hid (fun W => same_erV 0 (.inl rfl) W)
                          rw [show erV 0 = .nilIface from rfl] at HSM
                          rw [show erV 0 = .nilIface from rfl]
                          have HLS8 : Hid (LsSt w w8 base pl fr' mn' fi' N D' (u + f.ch.length + 1) (want ++ [f.ch])) := ⟨HBL8.out, HD8.out, HL8.out, HLr.out.hpl, hgd, hwk 1 (by omega), hdn8.trans HLr.out.dn, hrd8⟩
                          have hlen := HRCr.out.1
                          obtain ⟨vs, hrx, hvs⟩ := (HKWr.out.keep HFR.out).x
                          have HVS := Lib.hid hvs
                          have hvl : vs.length = want.length := by have := hrx.1; omega
                          have HVL := Lib.hid hvl
                          have HKC : Hid (KpC w8 w.heap.size f.A f.ch.length f.c f.ch) := by
                            have h := (KpC.low HRCr.out hzr).keep HFR.out
                            rw [← HRCr.out.1] at h
                            exact h
                          have hz8 : w.heap.size ≤ w8.heap.size := HBL8.out.size
                          have hblk8 : w5.heap.size < w8.heap.size := HX8.out.lt
                          have HLEN := Lib.hid hlen
                          clear hla hno hgd hwk hdn8 hrd8 HFR HBL8 HD8 HL8 HLr HKGr HKWr HRCr HXr HAD hlen hvs hvl
                          go_wp2_with fail
                          refine (HSM.out _).mono ?_
                          rintro e w9 ⟨rfl, rfl⟩
                          rename_i w8
                          have y5 := HX8.out.cell 5
                          go_wp2_with fail
                          have HK1 := Lib.hid (show Below w8.heap.size w8 w8.drew from (Below.refl _ _).drew)
                          have HK2 := Lib.hid (show Below w8.heap.size w8 ((w8.alloc (.cells #[.slice f.A f.n f.c] tSl)).drew) from ((Below.refl _ _).alloc (Nat.le_refl _) _).drew)
                          have q5 : w8.drew.cell? ⟨w5.heap.size, 5, none⟩ = some (.slice f.A f.n f.c) := y5
                          have HXR := Lib.hid (show RdX w8.drew 1 Aw want.length vs from hrx)
                          have HXR2 := Lib.hid (show RdX ((w8.alloc (.cells #[.slice f.A f.n f.c] tSl)).drew) 1 Aw want.length vs from hrx.alloc _)
                          have HXN2 := Lib.hid (show RdX ((w8.alloc (.cells #[.slice f.A f.n f.c] tSl)).drew) 1 (some ⟨w8.heap.size, 0, none⟩) 1 [.slice f.A f.n f.c] from RdX.new w8 1 #[.slice f.A f.n f.c] tSl rfl (by simp [Value.oneCell']))
                          clear hrx
                          go_region_law
                            (first
                              | (refine step_append_rd _ (by rfl) (.const (.slice none 0 0)) (.tmp 248) _ (by rfl) w8.heap.size tSl si _ 1 24 Try.underlying69 SI.out SZ.out SS.out SB.out rfl (by decide) (.slice none 0 0) 0 [] (by rfl) (World.ownsRow_nil w8.drew _ _ _) Aw want.length cw vs (by rfl) HXR.out (by unfold maxLen; omega) (by omega) HK1.out.size ?_; intro v5 wa own5 g5 loc5; have HB5 := Lib.hid (HK1.out.grown g5 HK1.out.size (fun k hk => by cases hk)); have u5 := (HB5.out.cell (p := ⟨w5.heap.size, 5, none⟩) hblk8).trans y5; have HO5 := Lib.hid own5; clear own5 g5 loc5)
                              | (refine step_append_rd _ (by rfl) (.const (.slice none 0 0)) (.tmp 248) _ (by rfl) w8.heap.size tSl si _ 1 24 Try.underlying69 SI.out SZ.out SS.out SB.out rfl (by decide) (.slice none 0 0) 0 [] (by rfl) (World.ownsRow_nil ((w8.alloc (.cells #[.slice f.A f.n f.c] tSl)).drew) _ _ _) Aw want.length cw vs (by rfl) HXR2.out (by unfold maxLen; omega) (by omega) HK2.out.size ?_; intro v5b wb own5 g5 loc5; have HB5b := Lib.hid (HK2.out.grown g5 HK2.out.size (fun k hk => by cases hk)); have HXN5 := Lib.hid (HXN2.out.keep (fun b hb => by obtain ⟨off, e⟩ := hb; injection e with e; injection e with e _; subst e; exact g5.block _ (by show w8.heap.size < (w8.alloc (.cells #[.slice f.A f.n f.c] tSl)).heap.size; simp) (by simp [Value.ownBlock]))); have HO5b := Lib.hid own5; clear own5 g5 loc5)
                              | (refine step_append_rd _ (by rfl) (.tmp 249) (.tmp 252) _ (by rfl) w8.heap.size tSl si _ 1 24 Try.underlying69 SI.out SZ.out SS.out SB.out rfl (by decide) v5 (0 + want.length) _ (by rfl) (own_upG HO5.out (.cells #[.slice f.A f.n f.c] tSl)) (some ⟨wa.heap.size, 0, none⟩) 1 1 [.slice f.A f.n f.c] (by rfl) (RdX.new wa 1 #[.slice f.A f.n f.c] tSl rfl (by simp [Value.oneCell'])) (by unfold maxLen; omega) (by omega) (HB5.out.alloc HB5.out.size _).size ?_; intro v6 w6 own6 g6 loc6; rw [Nat.zero_add, List.nil_append] at own6; have HB6 := Lib.hid ((HB5.out.alloc HB5.out.size (.cells #[.slice f.A f.n f.c] tSl)).grown g6 (HB5.out.alloc HB5.out.size _).size (fun k hk => (HO5.out.lt k hk).1)); have HO6 := Lib.hid own6; clear own6 g6 loc6)
                              | (refine step_append_rd _ (by rfl) (.tmp 249) (.tmp 252) _ (by rfl) w8.heap.size tSl si _ 1 24 Try.underlying69 SI.out SZ.out SS.out SB.out rfl (by decide) v5b (0 + want.length) _ (by rfl) HO5b.out (some ⟨w8.heap.size, 0, none⟩) 1 1 [.slice f.A f.n f.c] (by rfl) HXN5.out (by unfold maxLen; omega) (by omega) HB5b.out.size ?_; intro v6 w6 own6 g6 loc6; rw [Nat.zero_add, List.nil_append] at own6; have HB6 := Lib.hid (HB5b.out.grown g6 HB5b.out.size (fun k hk => (HO5b.out.lt k hk).1)); have HO6 := Lib.hid own6; clear own6 g6 loc6))
                          all_goals (
                            have hfr6 := Fr.of_below HB6.out hz8
                            have ho6 := HO6.out
                            rw [← HLEN.out] at ho6
                            obtain ⟨A6, c6, hv6, hk6⟩ := KpE.snoc HVS.out HVL.out HKC.out hfr6 ho6
                            subst hv6
                            have HK6 := Lib.hid hk6
                            have HL9 := Lib.hid (HLS8.out.below HB6.out)
                            have u6 : w6.cell? ⟨w5.heap.size, 5, none⟩ = some (.slice f.A f.n f.c) := (HB6.out.cell (p := ⟨w5.heap.size, 5, none⟩) hblk8).trans y5
                            clear hfr6 ho6 hk6 HO6 HK1 HK2 HXR HXR2 HXN2 q5 y5
                            go_wp2
                            go_roundw
                            case rel => exact ⟨k + 1, pl, u + f.ch.length + 1, want ++ [f.ch], D', A6, c6, A6, c6, by omega, rfl, by rw [List.length_append]; rfl, by rw [List.length_append]; rfl, by rw [HLEN.out]; go_num, by go_num, HL9.out, HK6.out, HK6.out⟩
                            case measure => simp [intOf]; omega)
                        · have fz : (fv == 0) = false := by rw [beq_eq_false_iff_ne]; exact hz
                          have HFV := Lib.hid (HFV0.out hz)
                          clear HFV0 HF0
                          have HLr := Lib.hid (HL6.out.below HBx.out)
                          have HKGr := Lib.hid (HKG6.out.keep (Fr.of_below HBx.out hz6))
                          have HKWr := Lib.hid (HKW6.out.keep (Fr.of_below HBx.out hz6))
                          have HRCr := Lib.hid (HRC6.out.below (HBx.out.mono hz6))
                          have hzr : w.heap.size ≤ wr.heap.size := Nat.le_trans hz6 HBx.out.size
                          have HXr : Hid (Blk wr w5.heap.size tDe #[.string f.kind, .string f.s, .string f.t, .int .i64 f.a, .int .u64 f.k, .slice f.A f.n f.c]) := (HBx.out.block _ HX6.out.lt).trans HX6.out
                          have xr5 := HXr.out.cell 5
                          have HAD : Hid (Calls Try.prog 46 #[ptr pl, .slice f.A f.n f.c] wr (LaPost wr base (base + 1) base pl D fr' mn' fi' u f.ch)) := by
                            obtain ⟨V, hd⟩ := HLr.out.dk
                            exact logAdd_any pl base (base + 1) base fr' mn' fi' u f.A f.n f.c f.ch V D wr HLr.out.log hd (HRCr.out.more hzr) HFL.out.2 (by omega) hdn (by omega) hu HLr.out.wok HLr.out.hpl
                          unfold LaPost ptr at HAD
                          go_wp2_with fail
                          refine HAD.out.mono ?_
                          rintro e w8 ⟨er, D', u', rfl, hla, hd8, hl8, hb8, ht8⟩
                          have HFR := Lib.hid (Fr.of_tyx ht8 (hb8.mono hsz1) HLr.out.log)
                          have HBL8 := Lib.hid (HLr.out.bel.trans (hb8.mono hsz1))
                          have HD8 := Lib.hid hd8
                          have HL8 := Lib.hid hl8
                          have HX8 := Lib.hid (ht8 _ tDe _ HXr.out (by decide) (by decide) (by decide) (HXr.out.ne HLr.out.log (by decide)))
                          clear hd8 hl8 hb8 ht8 xr5

                          obtain ⟨hfo, rfl, rfl⟩ : FvOk mn' u f.ch er ∧ D' = D ∧ u' = u := by
                            rcases hla.good HLr.out.good HLr.out.wok hdn HLr.out.rd with h | ⟨_, h, _⟩
                            · exact h
                            · exact absurd h (HFV.out).not
                          obtain rfl : er = fv := hfo.eq HFV.out
                          have hpos := hfo.pos
                          have HSM := Lib.hid (fun W => same_erV er (.inr hpos) W)
                          have hez : erV er = .iface 96 (.int .i64 er) := if_neg (by omega)
                          rw [hez] at HSM
                          rw [hez]
                          clear hfo hez hla
                          have hz0 : (er == 0) = false := by rw [beq_eq_false_iff_ne]; omega
                          go_wp2_with fail
                          refine (HSM.out _).mono ?_
                          rintro e w9 ⟨rfl, rfl⟩
                          go_wp2
                          go_roundw
                          case rel => exact ⟨k + 1, pl, u', want, D', Ag, cg, Aw, cw, by omega, rfl, rfl, rfl, rfl, by go_num, ⟨HBL8.out, HD8.out, HL8.out, HLr.out.hpl, HLr.out.good, HLr.out.wok, HLr.out.dn, HLr.out.rd⟩, HKGr.out.keep HFR.out, HKWr.out.keep HFR.out⟩
                          case measure => simp [intOf]; omega
                  · have hab : (f.kind.toList == [97, 100, 100]) = false := by rw [beq_eq_false_iff_ne]; exact hadd
                    clear hadd
                    have HOP : Hid (Calls Try.prog 41 #[ptr (base + 1), .int .i64 fr', .int .i64 mn', .int .i64 fi'] (w5.alloc (.cells #[.string f.kind, .string f.s, .string f.t, .int .i64 f.a, .int .u64 f.k, .slice f.A f.n f.c] tDe)) fun e w' => ∃ A c, e = .returned (.tuple #[ptr (w5.alloc (.cells #[.string f.kind, .string f.s, .string f.t, .int .i64 f.a, .int .u64 f.k, .slice f.A f.n f.c] tDe)).heap.size, .slice A want.length c, .nilIface]) ∧ KpE w' w.heap.size A want.length c want ∧ Blk w' (w5.alloc (.cells #[.string f.kind, .string f.s, .string f.t, .int .i64 f.a, .int .u64 f.k, .slice f.A f.n f.c] tDe)).heap.size tLog #[ptr (base + 1), .int .i64 fr', .int .i64 mn', .int .i64 fi', .int .i64 u] ∧ Below (w5.alloc (.cells #[.string f.kind, .string f.s, .string f.t, .int .i64 f.a, .int .u64 f.k, .slice f.A f.n f.c] tDe)).heap.size (w5.alloc (.cells #[.string f.kind, .string f.s, .string f.t, .int .i64 f.a, .int .u64 f.k, .slice f.A f.n f.c] tDe)) w') := by
                      obtain ⟨V, hd⟩ := HL6.out.dk
                      exact open_kp w.heap.size base (base + 1) base fr' mn' fi' V D _ hd HL6.out.good.down hdn (by omega) (by omega) (by omega) HL6.out.rd
                    unfold ptr at HOP
                    go_wp2_with fail
                    generalize hw6 : w5.alloc (.cells #[.string f.kind, .string f.s, .string f.t, .int .i64 f.a, .int .u64 f.k, .slice f.A f.n f.c] tDe) = w6 at *
                    refine HOP.out.mono ?_
                    rintro e w7 ⟨Ag', cg', rfl, hkg', hl7, hb7⟩
                    have HKG7 := Lib.hid hkg'
                    have HKW7 := Lib.hid (HKW6.out.keep (Fr.of_below hb7 hz6))
                    have HL7 : Hid (LsSt w w7 base w6.heap.size fr' mn' fi' N D u want) := by
                      have h := HL6.out.below hb7
                      exact ⟨h.bel, h.dk, hl7, by have := HL6.out.log.lt; have := HL6.out.hpl; omega, h.good, h.wok, h.dn, h.rd⟩
                    clear hkg' hl7 hb7 HOP hw6
                    go_wp2
                    go_roundw
                    case rel => exact ⟨k + 1, w6.heap.size, u, want, D, Ag', cg', Aw, cw, by omega, rfl, rfl, rfl, rfl, by go_num, HL7.out, HKG7.out, HKW7.out⟩
                    case measure => simp [intOf]; omega
end Go.Proofs.Ytgkenknplepmeaa
