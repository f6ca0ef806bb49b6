/-
  THE WALK OF hammerpondlaw.StoreSays: for every number of sectors and every list of deeds the call returns true, and nothing that was there has turned.
-/
import Derived.Test.YtgkenknplepmeaaSsB
namespace Go.Proofs.Ytgkenknplepmeaa
open Go.RowKit Go.Sort

abbrev tDs : TypeId := 38
/-- What stands in a round, behind k deeds. -/
def SsRel (w1 : World) (q n m : Nat) (v9 v12 : Value) (wr : World) : Prop := ∃ (k ps u : Nat) (rows : List Ch), k ≤ m ∧ v12 = .int .i64 k ∧ v9 = ptr ps ∧ RowsOk rows ∧ tmB rows = false ∧ Sx w1 w1.heap.size (w1.heap.size + 1) w1.heap.size q n (2 + 200 * k) ps u u rows rows wr
theorem kp_deed {w wx : World} {A : Option Addr} {n c B base : Nat} {l : List Ch} (h : RdC w B A n c l) (hB : B ≤ base) (hw : B ≤ wx.heap.size) (hb : Below B w wx) : KpC wx base A n c l :=
  ⟨(h.below hb).more hw, fun b off e hn => by
    obtain ⟨b', off', e', hlt, _⟩ := h.2.2.2 hn
    rw [e] at e'
    injection e' with e'
    injection e' with e1
    subst e1
    exact .inl (by omega)⟩
theorem pre_new {n : Nat} : preB magR (nowB ((newD n).sec 0)) = false := by
  show preB magR (nowB ⟨⟨Array.replicate 340 0⟩, []⟩) = false
  decide +kernel
theorem Sx.tail {w0 w : World} {base p B q n F ps u : Nat} {rows : List Ch} (h : Sx w0 base p B q n F ps u u rows rows w) (hl : rows.length ≤ 900000) :
    ∃ A9 c9, Blk w q tSr #[.slice A9 rows.length c9, .int .i64 u, .int .i64 (n - 44 : Nat)] ∧
      (∀ W, Below w.heap.size w W → Calls Try.prog 53 #[ptr ps] W fun e w' => e = .returned (.int .i64 (((n - 44 : Nat) : Int) - (u : Int))) ∧ ∃ k, w' = W.drewN k) ∧
      (∀ W, Below w.heap.size w W → Calls Try.prog 54 #[ptr ps] W fun e w' => ∃ A' c', e = .returned (.slice A' rows.length c') ∧ RdC w' w'.heap.size A' rows.length c' rows ∧ Below W.heap.size W w') ∧
      (∀ W A' c' B', Below w.heap.size w W → RdC W B' A' rows.length c' rows → Calls Try.prog 37 #[.slice A' rows.length c', .slice A9 rows.length c9] W fun e w' => e = .returned (.bool true) ∧ ∃ k, w' = W.drewN k) := by
  have hbw := h.bw
  obtain ⟨A, c, hs⟩ := h.st
  obtain ⟨A9, c9, h1, h2⟩ := h.rf
  exact ⟨A9, c9, h1, fun W hb => (hs.heap hb).roomQ W rfl, fun W hb => (hs.heap hb).rowsQ hl, fun W A' c' B' hb hr => sameC_any A' A9 rows.length c' c9 B' _ rows W hr (h2.keep (Fr.of_below hb hbw)).1⟩
set_option maxHeartbeats 4000000 in
set_option maxRecDepth 100000 in
theorem storeSays_any (sec : Int) (A1 : Option Addr) (n1 c1 : Nat) (l1 : List De) (w : World) (h1 : RdD w w.heap.size A1 n1 c1 l1) (hsec : -9223372036854775808 ≤ sec ∧ sec ≤ 9223372036854775807) :
    Calls Try.prog 6 #[.int .i64 sec, .slice A1 n1 c1] w fun e w' => e = .returned (.bool true) ∧ Below w.heap.size w w' := by
  have HR1 := Lib.hid h1
  have HL1 := Lib.hid h1.1
  have hm1 := h1.2.2.1
  have hc1 := h1.2.1
  unfold maxLen at hm1
  clear h1
  have HSP := Lib.hid (stores_any w)
  go_enter Try.func6, Try.ntmps6
  go_wp2_with fail
  refine HSP.out.mono ?_
  rintro e w1 ⟨rfl, hb1⟩
  have HB1 := Lib.hid hb1
  clear hb1 HSP
  go_wp2_with fail
  refine (lightDeeds_any A1 n1 c1 l1 40 w.heap.size w1 (HR1.out.below HB1.out) (by omega)).mono ?_
  rintro e w1' ⟨b1, rfl, hb1, rfl⟩
  cases b1 with
  | false =>
    go_wp2
    go_ret
    exact ⟨rfl, HB1.out⟩
  | true =>
  have HLi1 := Lib.hid (hb1 rfl)
  clear hb1
  have hn1 : n1 ≤ 40 := by have := HLi1.out.1; have := HL1.out; omega
  by_cases hbad : sec < 1 ∨ 120 < sec
  · have HN := Lib.hid (new_bad sec w1 hbad)
    have HS1 := Lib.hid (same_erS 1 (.inr (by omega)) w1)
    generalize erV 1 = ev at *
    have hb3 : decide (sec < 1) = true ∨ (decide (sec < 1) = false ∧ decide (120 < sec) = true) := by
      by_cases h : sec < 1
      · exact .inl (decide_eq_true h)
      · exact .inr ⟨decide_eq_false h, decide_eq_true (by omega)⟩
    clear hbad
    rcases hb3 with d1 | ⟨d1, d2⟩
    · go_wp2_with (first | (go_at_call 14; refine HN.out.mono ?_; rintro e wq ⟨rfl, rfl⟩) | (go_at_call 16; refine HS1.out.mono ?_; rintro e wq ⟨rfl, rfl⟩))
      go_ret
      exact ⟨rfl, HB1.out⟩
    · go_wp2_with (first | (go_at_call 14; refine HN.out.mono ?_; rintro e wq ⟨rfl, rfl⟩) | (go_at_call 16; refine HS1.out.mono ?_; rintro e wq ⟨rfl, rfl⟩))
      go_ret
      exact ⟨rfl, HB1.out⟩
  · obtain ⟨n, rfl⟩ : ∃ n : Nat, sec = n := ⟨sec.toNat, by omega⟩
    have hn1' : 1 ≤ n := by omega
    have hn2' : n ≤ 120 := by omega
    have d1 : decide ((n : Int) < 1) = false := decide_eq_false (by omega)
    have d2 : decide ((120 : Int) < (n : Int)) = false := decide_eq_false (by omega)
    clear hbad hsec
    have HN := Lib.hid (new_good n w1 hn1' hn2')
    unfold ptr at HN
    go_wp2_with fail
    refine HN.out.mono ?_
    rintro e w2 ⟨rfl, hd2, hb2⟩
    have HD2 := Lib.hid hd2
    have HON := Lib.hid (open_none _ _ _ _ (newD n) w2 hd2 rfl pre_new)
    have HB2 := Lib.hid hb2
    have HS4 := Lib.hid (fun W => same_err 4 (by omega) W)
    unfold ptr at HON
    clear hd2 hb2 HN
    go_wp2_with fail
    refine HON.out.mono ?_
    rintro e w3 ⟨rfl, hb3⟩
    have hz2 : w1.heap.size ≤ w2.heap.size := HB2.out.size
    have HB3 := Lib.hid (HB2.out.trans (hb3.mono hz2))
    have HD3 := Lib.hid (HD2.out.keep (fun _ _ hk => hb3.block _ hk))
    clear hb3 HON HB2 HD2
    go_wp2_with (go_at_call 16; refine (HS4.out _).mono ?_; rintro e wq ⟨rfl, rfl⟩)
    by_cases h50 : n < 50
    · have z50 : decide ((n : Int) < 50) = true := decide_eq_true (by omega)
      have HFF := Lib.hid (format_few _ _ _ _ (newD n) w3 HD3.out h50)
      have HS10 := Lib.hid (fun W => same_err 10 (by omega) W)
      unfold ptr at HFF
      clear HS4
      go_wp2_with (first | (go_at_call 49; refine HFF.out.mono ?_; rintro e wq ⟨rfl, rfl⟩) | (go_at_call 16; refine (HS10.out _).mono ?_; rintro e wq ⟨rfl, rfl⟩))
      go_ret
      exact ⟨rfl, HB1.out.trans (HB3.out.mono HB1.out.size)⟩
    · have z50 : decide ((n : Int) < 50) = false := decide_eq_false (by omega)
      have HF := Lib.hid (format_any _ _ _ _ (newD n) w3 HD3.out (by show 50 ≤ n; omega) (new_goodD n) (new_wok n 0 (by omega)))
      unfold ptr at HF
      clear HS4 HD3
      go_wp2_with fail
      refine HF.out.mono ?_
      rintro e w4 ⟨rfl, ⟨D', fi, V', hd4, hn4, hg4, hf4⟩, hb4, _⟩
      have HO := Lib.hid (mk_open hd4 hn4 hg4 hf4 (HB3.out.trans hb4))
      unfold ptr at HO
      clear hd4 hn4 hg4 hf4 hb4 HF HB3
      go_wp2_with fail
      refine HO.out.mono ?_
      rintro e w5 ⟨ps0, rfl, ⟨A0, c0, hst⟩, hb5⟩
      have hz5 : w1.heap.size ≤ w5.heap.size := hb5.size
      have hb6 : Below w5.heap.size w5 (w5.alloc (.cells #[.slice none 0 0, .int .i64 0, .int .i64 ((n - 44 : Nat) : Int)] tSr)) := (Below.refl _ _).alloc (Nat.le_refl _) _
      have hx6 := Blk.new w5 tSr #[.slice none 0 0, .int .i64 0, .int .i64 ((n - 44 : Nat) : Int)]
      have HT6 := Lib.hid (show Sx w1 w1.heap.size (w1.heap.size + 1) w1.heap.size w5.heap.size n (2 + 200 * 0) ps0 0 0 [] [] (w5.alloc (.cells #[.slice none 0 0, .int .i64 0, .int .i64 ((n - 44 : Nat) : Int)] tSr)) from
        ⟨⟨A0, c0, hst.heap hb6⟩, ⟨none, 0, hx6, ⟨⟨rfl, Nat.le_refl _, by unfold maxLen; omega, fun h => absurd h (Nat.lt_irrefl _)⟩, fun b off e => (by cases e)⟩⟩, hb5.trans (hb6.mono hz5), hz5⟩)
      have wm : IntKind.i64.wrap ((n : Int) - 44) = ((n - 44 : Nat) : Int) := by rw [IntKind.wrap_i64]; omega
      obtain ⟨m, hm⟩ : ∃ m, n - 44 = m := ⟨_, rfl⟩
      have hnm : (n : Int) - 44 = (m : Int) := by omega
      have HM := Lib.hid hm
      have hm120 : m ≤ 120 := by omega
      rw [hm] at HT6 wm
      clear hst hb5 hb6 hx6 HO hm
      have h49 : 50 ≤ n := by omega
      clear h50
      generalize hqq : w5.heap.size = q at *
      go_wp2
      go_loopw [9, 12] (fun v9 v12 wr => SsRel w1 q n n1 v9 v12 wr) (fun _ i _ => n1 - (intOf i).toNat)
      case atStart => exact ⟨0, ps0, 0, [], Nat.zero_le _, rfl, rfl, rows_nil, rfl, HT6.out⟩
      case round =>
        obtain ⟨k, ps, u, rows, hk, rfl, rfl, hok, hfw, hsx⟩ := hrel
        have hu := hsx.num.2.2
        have HBW := Lib.hid hsx.bw
        have HSX := Lib.hid hsx
        have HOK := Lib.hid hok
        have HFW := Lib.hid hfw
        have HU := Lib.hid hu
        clear hsx hok hfw hu HT6
        unfold ptr at *
        by_cases hlt : k < n1
        · obtain ⟨f, hf⟩ : ∃ f, l1[k]? = some f := ⟨_, List.getElem?_eq_getElem (by have := HL1.out; omega)⟩
          have hfm : f ∈ l1 := List.mem_of_getElem? hf
          have hfl := (HLi1.out.2 f hfm).2.2.1
          have HFS := Lib.hid (HLi1.out.2 f hfm).2.2.2
          have hb0 : Below w.heap.size w wr := HB1.out.trans (HSX.out.bel.mono HB1.out.size)
          obtain ⟨b', off, hA1, hbb', y0, y1, y2, y3, y4, y5, hfc, hfa, hfk⟩ := (HR1.out.below hb0).at_ hf
          subst hA1
          have hkm : (k : Int) < (n1 : Int) := by omega
          have hx6 := Blk.new wr tDs #[.string f.kind, .string f.s, .string f.t, .int .i64 f.a, .int .u64 f.k, .slice f.A f.n f.c]
          have hb6 : Below wr.heap.size wr (wr.alloc (.cells #[.string f.kind, .string f.s, .string f.t, .int .i64 f.a, .int .u64 f.k, .slice f.A f.n f.c] tDs)) := (Below.refl _ _).alloc (Nat.le_refl _) _
          have HS6 := Lib.hid (HSX.out.below hb6)
          have HK6 := Lib.hid (kp_deed (base := w1.heap.size) hfc HB1.out.size (Nat.le_trans hb0.size hb6.size) (hb6.mono hb0.size))
          have HX6 := Lib.hid hx6
          have HBW6 := Lib.hid (Nat.le_trans HBW.out hb6.size)
          have hch1 : f.n ≤ 1000 := by have h2 := hfc.1; omega
          have z0 := hx6.cell 0
          have z5 := hx6.cell 5
          clear hx6 hb6 hf hfm hb0 hfc HSX
          by_cases hkw : f.kind.toList = [99, 111, 109, 109, 105, 116]
          · have ek : (f.kind.toList == [99, 111, 109, 109, 105, 116]) = true := by rw [hkw]; rfl
            have HCP := Lib.hid (fun W (hb : Below (wr.alloc (.cells #[.string f.kind, .string f.s, .string f.t, .int .i64 f.a, .int .u64 f.k, .slice f.A f.n f.c] tDs)).heap.size (wr.alloc (.cells #[.string f.kind, .string f.s, .string f.t, .int .i64 f.a, .int .u64 f.k, .slice f.A f.n f.c] tDs)) W) => (HS6.out.below hb).commitP HOK.out HFW.out (HK6.out.keep (Fr.of_below hb HBW6.out)) HFS.out (by omega) hch1)
            clear hkw
            unfold ptr at HCP
            go_wp2_with fail
            go_region_held3 (fun w' => w'.cell? ⟨wr.heap.size, 5, none⟩ = some (.slice f.A f.n f.c))
              (first | exact z5 | exact HXb.out.cell 5 | exact HXa.out.cell 5)
              (first
                | (go_at_call 16; (with_reducible refine (HS1.out _).mono ?_); rintro e wq ⟨rfl, rfl⟩)
                | (go_at_call 51; (with_reducible refine (HSa.out.commitQ HOK.out HFW.out HKa.out HFS.out hch1 HU.out).mono ?_); rintro e wb ⟨er2, u3, r3, rfl, hcm2, hsb, hkb⟩; obtain ⟨q1, q2, q3⟩ := HCM.out.one hcm2; replace q1 := q1.symm; replace q2 := q2.symm; replace q3 := q3.symm; subst q1; subst q2; subst q3; have HSb := Lib.hid hsb; have HXb := Lib.hid (hkb _ _ _ HXa.out (by decide)); clear hsb hkb hcm2)
                | (go_at_call 50; refine (HCP.out _ ((Below.refl _ _).drew)).mono ?_; rintro e wa ⟨er, uZ, rZ, rfl, hcm, hsa, htq, hka⟩; have HS1 := Lib.hid (fun W => same_erS er hcm.pos W); have HCM := Lib.hid hcm; have HSa := Lib.hid hsa; have HKa := Lib.hid hka; have HXa := Lib.hid (htq _ _ _ HX6.out (by decide) (by decide) (by decide) (by decide) (by decide)); clear hcm hsa htq hka; generalize erV er = ev at *))
            obtain ⟨hokz, hfwz, huz⟩ := HCM.out.good HOK.out HFW.out HU.out
            have HOKZ := Lib.hid hokz
            have HFWZ := Lib.hid hfwz
            have HUZ := Lib.hid huz
            have HSZ := HSb
            clear hokz hfwz huz HSb HSa HS1 HKa HXa HXb HCP HCM HS6 HK6 HX6 z0 z5
            obtain ⟨A9, c9, hq9, hrm, hrw, hsc⟩ := HSZ.out.tail (by have := (rows_few HOKZ.out.ck HFWZ.out).2; omega)
            rw [HM.out] at hq9 hrm
            have x0 := hq9.cell 0
            have x1 := hq9.cell 1
            have x2 := hq9.cell 2
            have HQ9 := Lib.hid hq9
            have HRM := Lib.hid hrm
            have HRW := Lib.hid hrw
            have HSC := Lib.hid hsc
            have w9 : IntKind.i64.wrap ((m : Int) - (uZ : Int)) = (m : Int) - (uZ : Int) := by rw [IntKind.wrap_i64]; have := HUZ.out; rw [HM.out] at this; omega
            have hd9 : (((m : Int) - (uZ : Int)) != ((m : Int) - (uZ : Int))) = false := by simp
            unfold ptr at HRM HRW
            clear hq9 hrm hrw hsc
            go_wp2_with fail
            go_region_held3 (fun w' => w'.cell? ⟨q, 0, none⟩ = some (.slice A9 rZ.length c9) ∧ w'.cell? ⟨q, 1, none⟩ = some (.int .i64 uZ) ∧ w'.cell? ⟨q, 2, none⟩ = some (.int .i64 m))
              (first | exact ⟨x0, x1, x2⟩ | exact ⟨HQb.out.cell 0, HQb.out.cell 1, HQb.out.cell 2⟩)
              (first
                | (go_at_call 37; go_loud (refine (HSC.out _ _ _ _ HBb.out HRb.out).mono ?_; rintro e wy ⟨rfl, k2, rfl⟩))
                | (go_at_call 54; go_loud (refine (HRW.out _ (below_drewN (Below.refl _ wb) (1 + k1))).mono ?_; rintro e wz ⟨A8, c8, rfl, hr8, hb8⟩; have HBb := Lib.hid ((below_drewN (Below.refl _ wb) (1 + k1)).trans hb8); have HRb := Lib.hid hr8; have HQb := Lib.hid (show Blk wz q tSr _ from (HBb.out.block _ HQ9.out.lt).trans HQ9.out); clear hr8 hb8))
                | (go_at_call 53; go_loud (refine (HRM.out _ ((Below.refl _ _).drew)).mono ?_; rintro e wy ⟨rfl, k1, rfl⟩)))
            go_wp2_with fail
            go_roundw
            case rel => exact ⟨k + 1, ps, uZ, rZ, by omega, by go_num, rfl, HOKZ.out, HFWZ.out, (HSZ.out.below (below_drewN HBb.out _)).more (by omega)⟩
            case measure => simp [intOf]; omega
          have ek1 : (f.kind.toList == [99, 111, 109, 109, 105, 116]) = false := by rw [beq_eq_false_iff_ne]; exact hkw
          clear hkw
          by_cases hkv : f.kind.toList = [115, 97, 118, 101]
          · have ek : (f.kind.toList == [115, 97, 118, 101]) = true := by rw [hkv]; rfl
            have HSV := Lib.hid (HS6.out.saveP HOK.out HFW.out (by omega))
            unfold ptr at HSV
            clear hkv
            go_wp2_with fail
            refine HSV.out.mono ?_
            rintro e wa ⟨rfl, hsa, htq⟩
            obtain ⟨⟨v0, hv0⟩, hfz, hz⟩ := hsa.zero
            obtain ⟨uZ, huz, hsz⟩ : ∃ uZ, uZ ≤ n - 44 ∧ Sx w1 w1.heap.size (w1.heap.size + 1) w1.heap.size q n (2 + 200 * k + 200) ps uZ uZ rows rows (wa.setCell ⟨q, 1, none⟩ (.int .i64 0)) := ⟨0, Nat.zero_le _, hz⟩
            have HUZ := Lib.hid huz
            have HSZ := Lib.hid hsz
            have HOKZ := HOK
            have HFWZ := HFW
            obtain ⟨rZ, hrz⟩ : ∃ rZ, rZ = rows := ⟨_, rfl⟩
            rw [← hrz] at HSZ HOKZ HFWZ
            clear huz hsz hsa htq hz HSV HS6 HK6 HX6 hrz
            obtain ⟨WZ, hWZ⟩ : ∃ WZ, WZ = wa.setCell ⟨q, 1, none⟩ (.int .i64 0) := ⟨_, rfl⟩
            rw [← hWZ] at HSZ
            obtain ⟨A9, c9, hq9, hrm, hrw, hsc⟩ := HSZ.out.tail (by have := (rows_few HOKZ.out.ck HFWZ.out).2; omega)
            rw [HM.out] at hq9 hrm
            have x0 := hq9.cell 0
            have x1 := hq9.cell 1
            have x2 := hq9.cell 2
            have HQ9 := Lib.hid hq9
            have HRM := Lib.hid hrm
            have HRW := Lib.hid hrw
            have HSC := Lib.hid hsc
            have w9 : IntKind.i64.wrap ((m : Int) - (uZ : Int)) = (m : Int) - (uZ : Int) := by rw [IntKind.wrap_i64]; have := HUZ.out; rw [HM.out] at this; omega
            have hd9 : (((m : Int) - (uZ : Int)) != ((m : Int) - (uZ : Int))) = false := by simp
            unfold ptr at HRM HRW
            clear hq9 hrm hrw hsc
            go_wp2_with fail
            rw [← hWZ]
            clear hWZ
            go_region_held3 (fun w' => w'.cell? ⟨q, 0, none⟩ = some (.slice A9 rZ.length c9) ∧ w'.cell? ⟨q, 1, none⟩ = some (.int .i64 uZ) ∧ w'.cell? ⟨q, 2, none⟩ = some (.int .i64 m))
              (first | exact ⟨x0, x1, x2⟩ | exact ⟨HQb.out.cell 0, HQb.out.cell 1, HQb.out.cell 2⟩)
              (first
                | (go_at_call 37; go_loud (refine (HSC.out _ _ _ _ HBb.out HRb.out).mono ?_; rintro e wy ⟨rfl, k2, rfl⟩))
                | (go_at_call 54; go_loud (refine (HRW.out _ (below_drewN (Below.refl _ WZ) (1 + k1))).mono ?_; rintro e wz ⟨A8, c8, rfl, hr8, hb8⟩; have HBb := Lib.hid ((below_drewN (Below.refl _ WZ) (1 + k1)).trans hb8); have HRb := Lib.hid hr8; have HQb := Lib.hid (show Blk wz q tSr _ from (HBb.out.block _ HQ9.out.lt).trans HQ9.out); clear hr8 hb8))
                | (go_at_call 53; go_loud (refine (HRM.out _ ((Below.refl _ _).drew)).mono ?_; rintro e wy ⟨rfl, k1, rfl⟩)))
            go_wp2_with fail
            go_roundw
            case rel => exact ⟨k + 1, ps, uZ, rZ, by omega, by go_num, rfl, HOKZ.out, HFWZ.out, (HSZ.out.below (below_drewN HBb.out _)).more (by omega)⟩
            case measure => simp [intOf]; omega
          have ek2 : (f.kind.toList == [115, 97, 118, 101]) = false := by rw [beq_eq_false_iff_ne]; exact hkv
          clear hkv
          have HOP := Lib.hid (HS6.out.openP HOK.out HFW.out (by omega))
          unfold ptr at HOP
          go_wp2_with fail
          refine HOP.out.mono ?_
          rintro e wa ⟨psZ, rfl, hsa⟩
          have HSZ := Lib.hid hsa
          have HOKZ := HOK
          have HFWZ := HFW
          have HUZ := HU
          obtain ⟨uZ, huz⟩ : ∃ uZ, uZ = u := ⟨_, rfl⟩
          obtain ⟨rZ, hrz⟩ : ∃ rZ, rZ = rows := ⟨_, rfl⟩
          rw [← huz, ← hrz] at HSZ
          rw [← hrz] at HOKZ HFWZ
          rw [← huz] at HUZ
          clear hsa HOP HS6 HK6 HX6 huz hrz z0 z5
          obtain ⟨A9, c9, hq9, hrm, hrw, hsc⟩ := HSZ.out.tail (by have := (rows_few HOKZ.out.ck HFWZ.out).2; omega)
          rw [HM.out] at hq9 hrm
          have x0 := hq9.cell 0
          have x1 := hq9.cell 1
          have x2 := hq9.cell 2
          have HQ9 := Lib.hid hq9
          have HRM := Lib.hid hrm
          have HRW := Lib.hid hrw
          have HSC := Lib.hid hsc
          have w9 : IntKind.i64.wrap ((m : Int) - (uZ : Int)) = (m : Int) - (uZ : Int) := by rw [IntKind.wrap_i64]; have := HUZ.out; rw [HM.out] at this; omega
          have hd9 : (((m : Int) - (uZ : Int)) != ((m : Int) - (uZ : Int))) = false := by simp
          unfold ptr at HRM HRW
          clear hq9 hrm hrw hsc
          go_wp2_with fail
          go_region_held3 (fun w' => w'.cell? ⟨q, 0, none⟩ = some (.slice A9 rZ.length c9) ∧ w'.cell? ⟨q, 1, none⟩ = some (.int .i64 uZ) ∧ w'.cell? ⟨q, 2, none⟩ = some (.int .i64 m))
            (first | exact ⟨x0, x1, x2⟩ | exact ⟨HQb.out.cell 0, HQb.out.cell 1, HQb.out.cell 2⟩)
            (first
              | (go_at_call 37; go_loud (refine (HSC.out _ _ _ _ HBb.out HRb.out).mono ?_; rintro e wy ⟨rfl, k2, rfl⟩))
              | (go_at_call 54; go_loud (refine (HRW.out _ (below_drewN (Below.refl _ wa) (1 + k1))).mono ?_; rintro e wz ⟨A8, c8, rfl, hr8, hb8⟩; have HBb := Lib.hid ((below_drewN (Below.refl _ wa) (1 + k1)).trans hb8); have HRb := Lib.hid hr8; have HQb := Lib.hid (show Blk wz q tSr _ from (HBb.out.block _ HQ9.out.lt).trans HQ9.out); clear hr8 hb8))
              | (go_at_call 53; go_loud (refine (HRM.out _ ((Below.refl _ _).drew)).mono ?_; rintro e wy ⟨rfl, k1, rfl⟩)))
          go_wp2_with fail
          go_roundw
          case rel => exact ⟨k + 1, psZ, uZ, rZ, by omega, by go_num, rfl, HOKZ.out, HFWZ.out, (HSZ.out.below (below_drewN HBb.out _)).more (by omega)⟩
          case measure => simp [intOf]; omega
        · obtain rfl : n1 = k := by omega
          have hkm : decide ((n1 : Int) < (n1 : Int)) = false := decide_eq_false (by omega)
          have HBZ := Lib.hid (HB1.out.trans (HSX.out.bel.mono HB1.out.size))
          go_wp2
          go_ret
          exact ⟨rfl, HBZ.out⟩
end Go.Proofs.Ytgkenknplepmeaa
