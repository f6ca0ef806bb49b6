/-
  WALK: hammerpondref.ClosedDeeds: the entries of sectors, as the document reads them.
-/
import Derived.Test.YtgkenknplepmeaaLgL
namespace Go.Proofs.Ytgkenknplepmeaa
open Go.RowKit Go.Sort

theorem byte_one {s : ByteArray} (h : 0 < s.size) : (s.extract 0 1).toList = [s[0]] := by
  rw [ByteArray.toList_eq, extract_list]
  have hl : 0 < s.data.toList.length := by rw [len_list]; exact h
  rcases hs : s.data.toList with _ | ⟨a, r⟩
  · rw [hs] at hl; simp at hl
  · have : s[0] = a := by
      show s.data[0] = a
      have h2 : s.data.toList[0]? = some a := by rw [hs]; rfl
      rw [Array.getElem?_toList, Array.getElem?_eq_getElem h] at h2
      injection h2
    rw [this]
    rfl
theorem szR_two {s : ByteArray} (h : s.size = 340) : (szR s : Int) = (s[5].toNat : Int) + (256 : Int) * (s[6].toNat : Int) := by
  unfold szR
  have e : (s.extract 5 7).data.toList = [s[5], s[6]] := by
    rw [extract_list]
    apply List.ext_getElem?
    intro i
    rw [List.getElem?_take]
    match i with
    | 0 => rw [if_pos (by omega), List.getElem?_drop, Array.getElem?_toList, Array.getElem?_eq_getElem (by show 5 + 0 < s.size; omega)]; rfl
    | 1 => rw [if_pos (by omega), List.getElem?_drop, Array.getElem?_toList, Array.getElem?_eq_getElem (by show 5 + 1 < s.size; omega)]; rfl
    | i + 2 => rw [if_neg (by omega)]; rfl
  rw [e]
  unfold ofL ofL ofL
  omega
theorem byte_is {x : UInt8} {k : Nat} (hk : k < 256) : ([x] : List UInt8) = [UInt8.ofNat k] ↔ (x.toNat : Int) = (k : Int) := by
  constructor
  · intro h
    injection h with h _
    rw [h, UInt8.toNat_ofNat_of_lt' hk]
  · intro h
    have : x.toNat = k := by omega
    rw [← this]
    simp
def CdRel (w : World) (pl p fr mn fi U : Nat) (f : Nat → ByteArray) (first n : Nat) (v6 v7 v8 vi : Value) (wr : World) : Prop := ∃ (k uk : Nat) (es : List (List Ch)) (cs : List Ch), k ≤ n ∧ vi = .int .i64 k ∧ v8 = .int .i64 uk ∧ cs.length ≤ k ∧ es.length ≤ k ∧ uk ≤ n ∧ LgSt w pl p fr mn fi U v6 v7 es cs wr ∧ rdR f first (n - k) k es cs uk = rdR f first n 0 [] [] 0
def CdPost (w : World) (pl p fr mn fi U : Nat) (f : Nat → ByteArray) (first n : Nat) (e : Ending) (w' : World) : Prop := ∃ v v5 cs, e = .returned (.tuple #[v, .int .i64 (rdR f first n 0 [] [] 0).2]) ∧ LgSt w pl p fr mn fi U v v5 (rdR f first n 0 [] [] 0).1 cs w'
set_option maxHeartbeats 4000000 in
set_option maxRecDepth 100000 in
theorem closed_any (pl p fr mn fi U b off c n first : Nat) (bs : Array Value) (f : Nat → ByteArray) (w : World) (hl : Blk w pl tLog #[ptr p, .int .i64 fr, .int .i64 mn, .int .i64 fi, .int .i64 U])
    (hb : 0 < n → Blk w b tStr bs ∧ ∀ i, i < n → bs[off + i]? = some (.string (f i)) ∧ (f i).size = 340) (hn : n ≤ 1000) (hfi : first ≤ 1000000000000) :
    Calls Try.prog 42 #[.slice (some ⟨b, off, none⟩) n c, .int .i64 first] w (CdPost w pl p fr mn fi U f first n) := by
  have mixed : Try.prog.follows .mixedOrders = true := by kernel_rfl
  obtain ⟨ti, hti, htz, hts, htb⟩ := change_parts
  have HI := Lib.hid hti
  have HZ := Lib.hid htz
  have HS := Lib.hid hts
  have HB := Lib.hid htb
  obtain ⟨si, hsi, hsz, hss, hsb⟩ := slice_info
  have SI := Lib.hid hsi
  have SZ := Lib.hid hsz
  have SS := Lib.hid hss
  have SB := Lib.hid hsb
  clear hti htz hts htb hsi hsz hss hsb
  have HBK := Lib.hid hb
  have hpl := hl.lt
  have HL := Lib.hid hl
  have HST := Lib.hid (LgSt.start hl)
  clear hl hb
  go_enter Try.func42, Try.ntmps42
  go_wp2
  go_loopw [6, 7, 8, 9] (fun v6 v7 v8 vi wr => CdRel w pl p fr mn fi U f first n v6 v7 v8 vi wr) (fun _ _ _ vi _ => n - (intOf vi).toNat)
  case atStart => exact ⟨0, 0, [], [], Nat.zero_le _, rfl, rfl, Nat.le_refl _, Nat.le_refl _, Nat.zero_le _, HST.out, rfl⟩
  case round =>
    clear HST
    obtain ⟨k, uk, es, cs, hk, rfl, rfl, hcs, hes, huk, hst, hrd⟩ := hrel
    have H1 := Lib.hid hst
    have HRD := Lib.hid hrd
    obtain ⟨M0, vs0, _, h40, h50, _, _⟩ := hst.ent
    obtain ⟨A5, c5, e5⟩ := own_shape h50
    subst e5
    clear hrd h40 h50 hst
    by_cases hlt : k < n
    · obtain ⟨hbk, hcell⟩ := HBK.out (by omega)
      obtain ⟨hck, hsz⟩ := hcell k hlt
      have hbk1 : Blk wr b tStr bs := (H1.out.upd.block b hbk.lt (hbk.ne HL.out (by decide))).trans hbk
      have y0 : wr.cell? ⟨b, off + k, none⟩ = some (.string (f k)) := (hbk1.cell _).trans hck
      have hrd2 := HRD.out
      rw [show n - k = (n - (k + 1)) + 1 by omega, rdR] at hrd2
      clear hbk hcell hck hbk1
      generalize f k = s at *
      have i0 : 0 < s.size := by omega
      have i5 : 5 < s.size := by omega
      have i6 : 6 < s.size := by omega
      have i0z : (0 : Int) < (s.size : Int) := by omega
      have i5z : (5 : Int) < (s.size : Int) := by omega
      have i6z : (6 : Int) < (s.size : Int) := by omega
      have l5 : (5 : Int) ≤ (s.size : Int) := by omega
      have n5 : 5 ≤ s.size := by omega
      have kz : (k : Int) < (n : Int) := by omega
      have b5 : s[5].toNat < 256 := s[5].toNat_lt
      have b6 : s[6].toNat < 256 := s[6].toNat_lt
      have hzz : (s[5].toNat : Int) + (256 : Int) * (s[6].toNat : Int) = (szR s : Int) := (szR_two hsz).symm
      have HZZ := Lib.hid hzz
      have hone := byte_one i0
      have HF4 := Lib.hid (fun (W : World) => four_any (first + k) W (by omega))
      have HFC := Lib.hid (fun (W : World) => four_any cs.length W (by omega))
      have HR2 := Lib.hid hrd2
      clear hrd2 hzz
      simp only [show ((first + k : Nat) : Int) = (first : Int) + (k : Int) by omega] at HF4
      go_wp2_with fail
      go_quiet (fail)
      rw [HZZ.out]
      have H2 := Lib.hid (H1.out.drewN nq)
      have hF4 : ∀ q os, Calls Try.prog 76 #[.int .i64 ((first : Int) + (k : Int))] (grow ((wr.drewN nq).drewN q) os) fun e w' => e = .returned (.string (numR (first + k) 4)) ∧ ∃ q' os', w' = grow ((grow ((wr.drewN nq).drewN q) os).drewN q') os' := fun q os => HF4.out (grow ((wr.drewN nq).drewN q) os)
      generalize wr.drewN nq = w2 at *
      have hkdC : conB s (first + k) = false → rdR f first n 0 [] [] 0 = (es, uk) := fun hc => by
        have h := HR2.out
        unfold kdR at h
        rw [hc] at h
        simp only [Bool.false_eq_true, if_false] at h
        rw [if_neg (by rintro ⟨h, _⟩; rw [nil_list] at h; cases h), if_neg (by rintro ⟨h, _⟩; rw [nil_list] at h; cases h)] at h
        exact h.symm
      have hkdO : conB s (first + k) = true → kdR s (first + k) = ((s.extract 0 1), s.extract 7 (7 + szR s)) := fun hc => by unfold kdR; rw [if_pos hc]
      have HKC := Lib.hid hkdC
      have HKO := Lib.hid hkdO
      clear hkdC hkdO y0 H1 HZZ i5 i6 i5z i6z b5 b6
      have hcon : conB s (first + k) = ((decide ((s.extract 0 1).toList = [111]) || decide ((s.extract 0 1).toList = [99])) && (decide ((s.extract 1 5).toList = (numR (first + k) 4).toList) && decide (szR s ≤ 333))) := rfl
      rw [hone] at hcon
      have HCON := Lib.hid hcon
      clear hcon
      generalize szR s = z at *
      generalize numR (first + k) 4 = b4 at *
      by_cases hb4 : (s.extract 1 5).toList = b4.toList
      · have hbe : ((s.extract 1 5).toList == b4.toList) = true := by rw [hb4]; simp
        by_cases hz : z ≤ 333
        · have z1 : decide ((333 : Int) < (z : Int)) = false := decide_eq_false (by omega)
          have z2 : ¬ ((333 : Int) < (z : Int)) := by omega
          have z3 : (7 : Int) + (z : Int) ≤ (s.size : Int) := by omega
          have z4 : ((7 : Int) + (z : Int)).toNat = 7 + z := by omega
          have z5 : (0 : Int) ≤ 7 + (z : Int) := by omega
          have z6 : (7 : Int) ≤ 7 + (z : Int) := by omega
          have hts : (s.extract 7 (7 + z)).size ≤ 1000000 := by rw [ByteArray.size_extract]; omega
          go_wp2_with fail
          refine wp_region_quiet_grown (by assumption) (by kernel_rfl) ?_
          repeat (go_big_quiet_step (first | (go_at_call 76; (with_reducible refine Calls.grown_of (hF4 _ _)))))
          refine wpQuiet_nil ?_
          intro _ hw'
          obtain ⟨⟨nq', osq⟩, hw''⟩ := hw'
          subst hw''
          have H3 := Lib.hid (H2.out.step (Grw.below ⟨nq', osq, rfl⟩))
          clear hF4
          generalize grow (w2.drewN nq') osq = w3 at *
          by_cases hc : (s[0].toNat : Int) = 99
          · have hcb : ((s[0].toNat : Int) == 99) = true := by rw [hc]; rfl
            have hob : ((s[0].toNat : Int) == 111) = false := by rw [hc]; rfl
            have h99 : ([s[0]] : List UInt8) = [99] := (byte_is (k := 99) (by omega)).2 hc
            have hcon2 : conB s (first + k) = true := by rw [HCON.out, h99, decide_eq_true hb4, decide_eq_true hz]; rfl
            have hr2 := HR2.out
            rw [HKO.out hcon2] at hr2
            simp only [hone, h99] at hr2
            rw [if_neg (by rintro ⟨h, _⟩; cases h)] at hr2
            by_cases hd : (s.extract 7 (7 + z)).toList = (numR cs.length 4).toList
            · have hdb : ((s.extract 7 (7 + z)).toList == (numR cs.length 4).toList) = true := by rw [hd]; simp
              rw [if_pos ⟨trivial, hd⟩] at hr2
              have HR3 := Lib.hid hr2
              clear hr2 HR2
              generalize numR cs.length 4 = c4 at *
              go_wp2_with fail
              refine (HFC.out _).mono ?_
              rintro e w4 ⟨rfl, hg4⟩
              have H4 := Lib.hid (H3.out.step hg4.below)
              clear hg4 H3 HFC
              obtain ⟨vs, ho4, hone', hcl⟩ := (H4.out.alloc (.cells #[.slice A5 cs.length c5] tSl)).close hpl
              have HO4 := Lib.hid ho4
              have HCL := Lib.hid hcl
              have HRX := Lib.hid (RdX.new w4 1 #[.slice A5 cs.length c5] tSl rfl (fun v hv => by simp at hv; subst hv; rfl))
              have HSZ6 := Lib.hid (H4.out.alloc (.cells #[.slice A5 cs.length c5] tSl)).upd.size
              clear ho4 hone' hcl
              go_wp2_with (at_builtin; refine wpList_append_rd _ rfl (.tmp 58) (.tmp 60) _ rfl w.heap.size tSl si _ 1 24 Try.underlying69 SI.out SZ.out SS.out SB.out rfl (by omega) _ _ _ rfl HO4.out _ 1 1 _ rfl HRX.out ?_ ?_ ?_ ?_)
              · unfold maxLen; omega
              · omega
              · exact HSZ6.out
              intro v7 w7 hown7 hg7 _
              have H7 := Lib.hid (HCL.out v7 w7 hown7 hg7)
              clear hown7 hg7 HCL HO4 HRX HSZ6
              go_wp2
              go_roundw
              case rel => exact ⟨k + 1, k + 1, es ++ [cs], [], by omega, by go_num, by go_num, by simp, by rw [List.length_append]; simp; omega, by omega, H7.out, HR3.out⟩
              case measure => simp [intOf]; omega
            · have hdb : ((s.extract 7 (7 + z)).toList == (numR cs.length 4).toList) = false := by rw [beq_eq_false_iff_ne]; exact hd
              rw [if_neg (fun h => hd h.2)] at hr2
              have HE := Lib.hid hr2.symm
              clear hr2 HR2
              generalize numR cs.length 4 = c4 at *
              go_wp2_with fail
              refine (HFC.out _).mono ?_
              rintro e w4 ⟨rfl, hg4⟩
              have H4 := Lib.hid (H3.out.step hg4.below)
              clear hg4 H3 HFC
              go_wp2
              go_ret2
              exact ⟨_, _, cs, by rw [HE.out]; rfl, by rw [HE.out]; exact H4.out⟩
          · have hcb : ((s[0].toNat : Int) == 99) = false := by rw [beq_eq_false_iff_ne]; exact hc
            have h99 : ¬ ([s[0]] : List UInt8) = [99] := fun h => hc ((byte_is (k := 99) (by omega)).1 h)
            by_cases ho : (s[0].toNat : Int) = 111
            · have hob : ((s[0].toNat : Int) == 111) = true := by rw [ho]; rfl
              have h111 : ([s[0]] : List UInt8) = [111] := (byte_is (k := 111) (by omega)).2 ho
              have hcon2 : conB s (first + k) = true := by rw [HCON.out, h111, decide_eq_true hb4, decide_eq_true hz]; rfl
              have hr2 := HR2.out
              rw [HKO.out hcon2] at hr2
              simp only [hone, h111] at hr2
              have HOF := Lib.hid (fun W => changeOf_any (s.extract 7 (7 + z)) W hts)
              simp only [ofV_eq] at HOF
              generalize hp9 : parCh (s.extract 7 (7 + z)) = p9 at *
              clear hp9
              by_cases hpb : parB (s.extract 7 (7 + z)) = true
              · have hpn : parN (s.extract 7 (7 + z)) = 0 := by unfold parN; rw [if_pos hpb]
                rw [hpn] at HOF
                rw [if_pos ⟨trivial, hpb⟩] at hr2
                have HR3 := Lib.hid hr2
                clear hr2 HR2 hpn
                go_wp2_with fail
                refine (HOF.out _).mono ?_
                rintro e w4 ⟨rfl, hb5⟩
                have H4 := Lib.hid (H3.out.step hb5)
                clear hb5 H3 HOF
                have H5 := Lib.hid (H4.out.alloc (.cells #[.string p9.key, .string p9.val, .bool p9.gone] tCh))
                have hx := StC.new w4 p9.key p9.val p9.gone tCh
                have x0 := hx.c0
                have x1 := hx.c1
                have x2 := hx.c2
                clear hx
                have HRX1 : Hid (RdX ((w4.alloc (.cells #[.string p9.key, .string p9.val, .bool p9.gone] tCh)).alloc (.cells #[.string p9.key, .string p9.val, .bool p9.gone] tCh)) 3 (some ⟨w4.heap.size + 1, 0, none⟩) 1 (encC p9)) := by
                  have h := rdx_up (w4.alloc (.cells #[.string p9.key, .string p9.val, .bool p9.gone] tCh)) p9
                  rw [show (w4.alloc (.cells #[.string p9.key, .string p9.val, .bool p9.gone] tCh)).heap.size = w4.heap.size + 1 by simp] at h
                  exact h
                obtain ⟨M, ho5, hM5, happ⟩ := (H5.out.alloc (.cells #[.string p9.key, .string p9.val, .bool p9.gone] tCh)).app hpl
                have HO5 := Lib.hid ho5
                have HM5 := Lib.hid hM5
                have HAPP := Lib.hid happ
                clear ho5 hM5 happ H4
                go_wp2_with (at_builtin; refine wpList_append_rd _ rfl (.tmp 74) (.tmp 76) _ rfl M tCh ti _ 3 40 Try.underlying36 HI.out HZ.out HS.out HB.out rfl (by omega) _ _ _ rfl HO5.out _ 1 1 _ rfl HRX1.out ?_ ?_ ?_ ?_)
                · unfold maxLen; omega
                · omega
                · exact HM5.out
                intro v6 w6 hown6 hg6 _
                have H6 := Lib.hid (HAPP.out p9 v6 w6 hown6 hg6)
                clear hown6 hg6 HAPP HO5 HM5
                go_wp2
                go_roundw
                case rel => exact ⟨k + 1, uk, es, cs ++ [p9], by omega, by go_num, rfl, by rw [List.length_append]; simp; omega, by omega, huk, H6.out, HR3.out⟩
                case measure => simp [intOf]; omega
              · have hpn : parN (s.extract 7 (7 + z)) = 4 := by unfold parN; rw [if_neg hpb]
                rw [hpn] at HOF
                rw [if_neg (fun h => hpb h.2), if_neg (by rintro ⟨h, _⟩; cases h)] at hr2
                have HE := Lib.hid hr2.symm
                clear hr2 HR2 hpn
                go_wp2_with fail
                refine (HOF.out _).mono ?_
                rintro e w4 ⟨rfl, hb5⟩
                have H4 := Lib.hid (H3.out.step hb5)
                have H5 := Lib.hid (H4.out.alloc (.cells #[.string p9.key, .string p9.val, .bool p9.gone] tCh))
                clear hb5 H3 HOF
                go_wp2
                go_ret2
                exact ⟨_, _, cs, by rw [HE.out]; rfl, by rw [HE.out]; exact H5.out⟩
            · have hob : ((s[0].toNat : Int) == 111) = false := by rw [beq_eq_false_iff_ne]; exact ho
              have h111 : ¬ ([s[0]] : List UInt8) = [111] := fun h => ho ((byte_is (k := 111) (by omega)).1 h)
              have HE := Lib.hid (HKC.out (by rw [HCON.out, decide_eq_false h111, decide_eq_false h99]; rfl))
              go_wp2
              go_ret2
              exact ⟨_, _, cs, by rw [HE.out]; rfl, by rw [HE.out]; exact H3.out⟩
        · have z1 : (333 : Int) < (z : Int) := by omega
          have HE := Lib.hid (HKC.out (by rw [HCON.out, decide_eq_false hz]; simp))
          go_wp2_with fail
          refine wp_region_quiet_grown (by assumption) (by kernel_rfl) ?_
          repeat (go_big_quiet_step (first | (go_at_call 76; (with_reducible refine Calls.grown_of (hF4 _ _)))))
          refine wpQuiet_nil ?_
          intro _ hw'
          obtain ⟨⟨nq', osq⟩, hw''⟩ := hw'
          subst hw''
          have H3 := Lib.hid (H2.out.step (Grw.below ⟨nq', osq, rfl⟩))
          clear hF4
          generalize grow (w2.drewN nq') osq = w3 at *
          go_wp2
          go_ret2
          exact ⟨_, _, cs, by rw [HE.out]; rfl, by rw [HE.out]; exact H3.out⟩
      · have hbe : ((s.extract 1 5).toList == b4.toList) = false := by rw [beq_eq_false_iff_ne]; exact hb4
        have HE := Lib.hid (HKC.out (by rw [HCON.out, decide_eq_false hb4]; simp))
        go_wp2_with fail
        refine wp_region_quiet_grown (by assumption) (by kernel_rfl) ?_
        repeat (go_big_quiet_step (first | (go_at_call 76; (with_reducible refine Calls.grown_of (hF4 _ _)))))
        refine wpQuiet_nil ?_
        intro _ hw'
        obtain ⟨⟨nq', osq⟩, hw''⟩ := hw'
        subst hw''
        have H3 := Lib.hid (H2.out.step (Grw.below ⟨nq', osq, rfl⟩))
        clear hF4
        generalize grow (w2.drewN nq') osq = w3 at *
        go_wp2
        go_ret2
        exact ⟨_, _, cs, by rw [HE.out]; rfl, by rw [HE.out]; exact H3.out⟩
    · obtain rfl : k = n := by omega
      have hrd3 := HRD.out
      rw [Nat.sub_self, rdR] at hrd3
      go_wp2
      go_ret2
      exact ⟨_, _, cs, by rw [← hrd3]; rfl, by rw [← hrd3]; exact H1.out⟩
end Go.Proofs.Ytgkenknplepmeaa
