/-
  THE WALK OF hammerpondlaw.DiskSays: for every number of sectors and every list of deeds the call returns true, and nothing that was there has turned.
-/
import Derived.Test.YtgkenknplepmeaaSpins
namespace Go.Proofs.Ytgkenknplepmeaa
open Go.RowKit

/-- What stands in a round of the first loop, behind k deeds. -/
def DsRel (w0 : World) (base p B q n m : Nat) (i : Value) (wr : World) : Prop := ∃ (k : Nat) (D : Dk) (R : Rk), k ≤ m ∧ i = .int .i64 k ∧ D.n = n ∧ Two (fun _ => True) w0 base p B q D R wr ∧ Go2 D R k
def DtRel (w0 : World) (base p B q n m : Nat) (i : Value) (wr : World) : Prop := ∃ (k : Int) (D : Dk) (R : Rk), -1 ≤ k ∧ k ≤ n + 1 ∧ i = .int .i64 k ∧ D.n = n ∧ Two (fun _ => True) w0 base p B q D R wr ∧ Go2 D R m
theorem Two.free {K : World → Prop} {w0 w : World} {base p B q : Nat} {D : Dk} {R : Rk} (h : Two K w0 base p B q D R w) : Two (fun _ => True) w0 base p B q D R w := ⟨h.dk, h.rk, h.bel, trivial⟩
theorem below_drewN (w : World) (n : Nat) : Below w.heap.size w (w.drewN n) := ⟨rfl, rfl, rfl, Nat.le_refl _, fun _ _ => rfl⟩
theorem quiet_eqD {P : Program} {f : FuncId} {args : Array Value} {w : World} {n : Nat} {v : Value} (h : Calls P f args (w.drewN n) fun e w' => e = .returned v ∧ w.drewN n = w') : Calls P f args (w.drewN n) fun e w'' => e = .returned v ∧ ∃ m, w'' = w.drewN m :=
  h.mono fun _ _ ⟨he, hm⟩ => ⟨he, n, hm.symm⟩
theorem Two.downW {K : World → Prop} {w0 w W : World} {base p B q : Nat} {D : Dk} {R : Rk} (h : Two K w0 base p B q D R w) (hW : W.heap = w.heap) : Calls Try.prog 27 #[ptr p] W fun e w' => e = .returned (.bool D.down) ∧ W = w' := by
  obtain ⟨V, hd⟩ := h.dk
  exact down_any base p B V D W (hd.keep (fun g _ _ => by rw [hW]))
set_option maxHeartbeats 4000000 in
set_option maxRecDepth 100000 in
theorem diskSays_any (sec : Int) (A1 : Option Addr) (n1 c1 : Nat) (l1 : List De) (w : World) (h1 : RdD w w.heap.size A1 n1 c1 l1) (hsec : -9223372036854775808 ≤ sec ∧ sec ≤ 9223372036854775807) :
    Calls Try.prog 3 #[.int .i64 sec, .slice A1 n1 c1] w fun e w' => e = .returned (.bool true) ∧ Below w.heap.size w w' := by
  have HR1 := Lib.hid h1
  have HL1 := Lib.hid h1.1
  have hm1 := h1.2.2.1
  have hc1 := h1.2.1
  unfold maxLen at hm1
  clear h1
  have HSP := Lib.hid (spins_any w)
  go_enter Try.func3, Try.ntmps3
  go_wp2_with fail
  refine HSP.out.mono ?_
  rintro e w1 ⟨rfl, hb1⟩
  have HB1 := Lib.hid hb1
  clear hb1 HSP
  go_wp2_with fail
  refine (lightDeeds_any A1 n1 c1 l1 80 w.heap.size w1 (HR1.out.below HB1.out) (by omega)).mono ?_
  rintro e w1' ⟨b1, rfl, hb1, rfl⟩
  cases b1 with
  | false =>
    go_wp2
    go_ret
    exact ⟨rfl, HB1.out⟩
  | true =>
  have HLi1 := Lib.hid (hb1 rfl)
  clear hb1
  have hn1 : n1 ≤ 80 := by have := HLi1.out.1; have := HL1.out; omega
  by_cases hbad : sec < 1 ∨ 120 < sec
  · have HN := Lib.hid (new_bad sec w1 hbad)
    have HNq := Lib.hid (newQ_bad sec w1 hbad)
    have HS1 := Lib.hid (same_erW 1 (.inr (by omega)) w1)
    generalize erV 1 = ev at *
    clear hbad
    go_wp2_with (first | (go_at_call 14; refine HN.out.mono ?_; rintro e wq ⟨rfl, rfl⟩) | (go_at_call 15; refine HNq.out.mono ?_; rintro e wq ⟨rfl, rfl⟩) | (go_at_call 16; refine HS1.out.mono ?_; rintro e wq ⟨rfl, rfl⟩))
    go_ret
    exact ⟨rfl, HB1.out⟩
  · obtain ⟨n, rfl⟩ : ∃ n : Nat, sec = n := ⟨sec.toNat, by omega⟩
    have hn1' : 1 ≤ n := by omega
    have hn2' : n ≤ 120 := by omega
    clear hbad hsec
    have HN := Lib.hid (new_good n w1 hn1' hn2')
    unfold ptr at HN
    go_wp2_with fail
    refine HN.out.mono ?_
    rintro e w2 ⟨rfl, hd2, hb2⟩
    have HD2 := Lib.hid hd2
    have HB2 := Lib.hid hb2
    have HNq := Lib.hid (newQ_good n w2 hn1' hn2')
    unfold ptr at HNq
    clear hd2 hb2 HN
    go_wp2_with fail
    refine HNq.out.mono ?_
    rintro e w3 ⟨rfl, ⟨VK, VN, VW, hr3⟩, hb3, hy3⟩
    have hd3 := HD2.out.tyR hy3
    have HS3 := Lib.hid (sectors_any _ _ _ _ _ w3 hd3)
    rw [show (newD n).n = n from rfl] at HS3
    unfold ptr at HS3
    have HT3 := Lib.hid (show Two (fun _ => True) w1 w1.heap.size (w1.heap.size + 1) w1.heap.size w2.heap.size (newD n) (newQ n) w3 from ⟨⟨_, hd3⟩, ⟨VK, VN, VW, hr3.mono HB2.out.size⟩, HB2.out.trans (hb3.mono HB2.out.size), trivial⟩)
    have hz12 : w1.heap.size ≤ w2.heap.size := HB2.out.size
    clear hr3 hb3 hy3 hd3 HNq HD2 HB2
    generalize hqq : w2.heap.size = q at *
    generalize hbb : w1.heap.size = base at *
    go_wp2_with (go_at_call 17; refine HS3.out.mono ?_; rintro e wq ⟨rfl, rfl⟩)
    clear HS3
    go_loopw [10] (fun i wr => DsRel w1 base (base + 1) base q n n1 i wr) (fun i _ => n1 - (intOf i).toNat)
    case atStart => exact ⟨0, newD n, newQ n, Nat.zero_le _, rfl, rfl, HT3.out, go2_new⟩
    case round =>
      obtain ⟨k, D, R, hk, rfl, hDn, htw, hgo⟩ := hrel
      have HTW := Lib.hid htw
      have HGO := Lib.hid hgo
      have HDN := Lib.hid hDn
      clear htw hgo hDn HT3
      by_cases hlt : k < n1
      · obtain ⟨f, hf⟩ : ∃ f, l1[k]? = some f := ⟨_, List.getElem?_eq_getElem (by have := HL1.out; omega)⟩
        have hfm : f ∈ l1 := List.mem_of_getElem? hf
        have hfs := (HLi1.out.2 f hfm).1
        have hb0 : Below w.heap.size w wr := HB1.out.trans (HTW.out.bel.mono (by rw [← hbb]; exact HB1.out.size))
        obtain ⟨b', off, hA1, hbb', y0, y1, y2, y3, y4, y5, _, hfa, hfk⟩ := (HR1.out.below hb0).at_ hf
        subst hA1
        have hkm : (k : Int) < (n1 : Int) := by omega
        have hx6 := Blk.new wr tDd #[.string f.kind, .string f.s, .string f.t, .int .i64 f.a, .int .u64 f.k, .slice f.A f.n f.c]
        have hb6 : Below wr.heap.size wr (wr.alloc (.cells #[.string f.kind, .string f.s, .string f.t, .int .i64 f.a, .int .u64 f.k, .slice f.A f.n f.c] tDd)) := (Below.refl _ _).alloc (Nat.le_refl _) _
        have ht6 := HTW.out.below kp_true hb6
        have HT6 := Lib.hid (show Two (fun W => Blk W wr.heap.size tDd #[.string f.kind, .string f.s, .string f.t, .int .i64 f.a, .int .u64 f.k, .slice f.A f.n f.c]) w1 base (base + 1) base q D R (wr.alloc (.cells #[.string f.kind, .string f.s, .string f.t, .int .i64 f.a, .int .u64 f.k, .slice f.A f.n f.c] tDd)) from ⟨ht6.dk, ht6.rk, ht6.bel, hx6⟩)
        have z0 := hx6.cell 0
        have z1 := hx6.cell 1
        have z3 := hx6.cell 3
        have z4 := hx6.cell 4
        clear hx6 hb6 ht6 hf hfm hb0
        have hk80 : k ≤ 80 := by omega
        by_cases hkw : f.kind.toList = [119, 114, 105, 116, 101]
        · have ek : (f.kind.toList == [119, 114, 105, 116, 101]) = true := by rw [hkw]; rfl
          have HWP := Lib.hid (fun W (h : Two (fun W => Blk W wr.heap.size tDd #[.string f.kind, .string f.s, .string f.t, .int .i64 f.a, .int .u64 f.k, .slice f.A f.n f.c]) w1 base (base + 1) base q D R W) => h.writeP (kp_box _ _) HGO.out (by omega) f.a f.s (by omega))
          have HWQ := Lib.hid (fun D' W (h : Two (fun W => Blk W wr.heap.size tDd #[.string f.kind, .string f.s, .string f.t, .int .i64 f.a, .int .u64 f.k, .slice f.A f.n f.c]) w1 base (base + 1) base q D' R W) => h.writeQ' (kp_box _ _) HGO.out (by rw [HDN.out]; exact hn2') (by omega) f.a f.s (by omega))
          obtain ⟨hE, hg2⟩ := HGO.out.write f.a f.s
          have hDN2 : (writeX D f.a f.s).1.n = n := by
            unfold writeX
            split
            · exact HDN.out
            · split
              · unfold stepR; split <;> exact HDN.out
              · show (stepR D).1.n = n
                unfold stepR; split <;> exact HDN.out
          rw [← hE] at HWQ
          have hpos : (writeX D f.a f.s).2 = 0 ∨ 0 < (writeX D f.a f.s).2 := by
            unfold writeX
            split
            · exact .inr (by show (0 : Int) < 1; omega)
            · split
              · unfold stepR; split
                · exact .inr (by show (0 : Int) < 11; omega)
                · exact .inl rfl
              · exact .inl rfl
          have HS1 := Lib.hid (fun W => same_erW (writeX D f.a f.s).2 hpos W)
          clear hkw hE hpos
          generalize (writeX D f.a f.s).1 = D2 at *
          generalize (writeX D f.a f.s).2 = er at *
          generalize (writeQ R f.a f.s).1 = R2 at *
          unfold ptr at HWP HWQ
          generalize erV er = ev at *
          have HG2 := Lib.hid hg2
          have HDN2 := Lib.hid hDN2
          clear hg2 hDN2
          go_wp2_with fail
          go_region_held3 (fun w' => w'.cell? ⟨wr.heap.size, 1, none⟩ = some (.string f.s) ∧ w'.cell? ⟨wr.heap.size, 3, none⟩ = some (.int .i64 f.a))
            (first | exact ⟨z1, z3⟩ | exact ⟨HTb.out.k.cell 1, HTb.out.k.cell 3⟩ | exact ⟨HTa.out.k.cell 1, HTa.out.k.cell 3⟩)
            (first
              | (go_at_call 16; (with_reducible refine (HS1.out _).mono ?_); rintro e wq ⟨rfl, rfl⟩)
              | (go_at_call 19; (with_reducible refine (HWQ.out _ _ HTa.out).mono ?_); rintro e wb ⟨rfl, htb⟩; have HTb := Lib.hid htb; clear htb)
              | (go_at_call 18; refine (HWP.out _ (HT6.out.below (kp_box _ _) (Below.refl _ _).drew)).mono ?_; rintro e wa ⟨rfl, hta⟩; have HTa := Lib.hid hta; clear hta))
          have cdn := HTb.out.downQ
          rw [← HG2.out.down] at cdn
          have HDQ := Lib.hid (fun W hW => HTb.out.downW (W := W) hW)
          have HT9 := Lib.hid (show Two (fun _ => True) w1 base (base + 1) base q D2 R2 wb from ⟨HTb.out.dk, HTb.out.rk, HTb.out.bel, trivial⟩)
          clear HTb HT6
          unfold ptr at HDQ
          have HNE := Lib.hid (show ((D2).down != (D2).down) = false by cases (D2).down <;> rfl)
          obtain ⟨dw, hdw⟩ : ∃ dw, (D2).down = dw := ⟨_, rfl⟩
          rw [hdw] at cdn HDQ HNE
          have hne := HNE.out
          clear hdw HNE
          go_wp2_with fail
          go_quiet (first | (go_at_call 27; refine quiet_eqD (HDQ.out _ rfl)))
          go_wp2_with fail
          go_roundw
          case rel => exact ⟨k + 1, D2, R2, by omega, by go_num, HDN2.out, HT9.out.below kp_true (below_drewN _ _), HG2.out⟩
          case measure => simp [intOf]; omega
        have ek1 : (f.kind.toList == [119, 114, 105, 116, 101]) = false := by rw [beq_eq_false_iff_ne]; exact hkw
        clear hkw
        by_cases hkr : f.kind.toList = [114, 101, 97, 100]
        · have ek : (f.kind.toList == [114, 101, 97, 100]) = true := by rw [hkr]; rfl
          have HRP := Lib.hid (HT6.out.readP (kp_box _ _) f.a)
          have HRQ := Lib.hid (fun W (h : Two (fun W => Blk W wr.heap.size tDd #[.string f.kind, .string f.s, .string f.t, .int .i64 f.a, .int .u64 f.k, .slice f.A f.n f.c]) w1 base (base + 1) base q D R W) => h.readQ' HGO.out (by rw [HDN.out]; exact hn2') f.a)
          rw [HGO.out.read f.a] at HRQ
          have hpos : (readR D f.a).2 = 0 ∨ 0 < (readR D f.a).2 := by
            unfold readR
            split
            · exact .inr (by show (0 : Int) < 11; omega)
            · split
              · exact .inl rfl
              · exact .inr (by show (0 : Int) < 1; omega)
          have HS1 := Lib.hid (fun W => same_erW (readR D f.a).2 hpos W)
          have HG2 := Lib.hid (HGO.out.mono (show k ≤ k + 1 by omega))
          clear hkr hpos
          generalize (readR D f.a).1 = rs at *
          generalize (readR D f.a).2 = er at *
          unfold ptr at HRP HRQ
          generalize erV er = ev at *
          go_wp2_with fail
          refine HRP.out.mono ?_
          rintro e wb ⟨rfl, htb⟩
          have HTb := Lib.hid htb
          have b1 := htb.k.cell 3
          clear htb
          go_wp2_with (first | (go_at_call 21; refine (HRQ.out _ HTb.out).mono ?_; rintro e wq ⟨rfl, rfl⟩) | (go_at_call 16; refine (HS1.out _).mono ?_; rintro e wq ⟨rfl, rfl⟩))
          have cdn := HTb.out.downQ
          rw [← HG2.out.down] at cdn
          have HDQ := Lib.hid (fun W hW => HTb.out.downW (W := W) hW)
          have HT9 := Lib.hid (show Two (fun _ => True) w1 base (base + 1) base q D R wb from ⟨HTb.out.dk, HTb.out.rk, HTb.out.bel, trivial⟩)
          clear HTb HT6
          unfold ptr at HDQ
          have HNE := Lib.hid (show ((D).down != (D).down) = false by cases (D).down <;> rfl)
          obtain ⟨dw, hdw⟩ : ∃ dw, (D).down = dw := ⟨_, rfl⟩
          rw [hdw] at cdn HDQ HNE
          have hne := HNE.out
          clear hdw HNE
          go_wp2_with fail
          go_quiet (first | (go_at_call 27; refine quiet_eqD (HDQ.out _ rfl)))
          go_wp2_with fail
          go_roundw
          case rel => exact ⟨k + 1, D, R, by omega, by go_num, HDN.out, HT9.out.below kp_true (below_drewN _ _), HG2.out⟩
          case measure => simp [intOf]; omega
        have ek2 : (f.kind.toList == [114, 101, 97, 100]) = false := by rw [beq_eq_false_iff_ne]; exact hkr
        clear hkr
        by_cases hkf : f.kind.toList = [102, 108, 117, 115, 104]
        · have ek : (f.kind.toList == [102, 108, 117, 115, 104]) = true := by rw [hkf]; rfl
          have HFP := Lib.hid (HT6.out.flushP (kp_box _ _) HGO.out (by omega))
          have HFQ := Lib.hid (fun D' W (h : Two (fun W => Blk W wr.heap.size tDd #[.string f.kind, .string f.s, .string f.t, .int .i64 f.a, .int .u64 f.k, .slice f.A f.n f.c]) w1 base (base + 1) base q D' R W) => h.flushQ' (kp_box _ _) HGO.out (by rw [HDN.out]; exact hn2') (by rw [HDN.out]; exact hn1'))
          obtain ⟨hE, hg2⟩ := HGO.out.flush
          have hDN2 : (flushR D).1.n = n := by
            unfold flushR
            split
            · unfold stepR; split <;> exact HDN.out
            · show (stepR D).1.n = n
              unfold stepR; split <;> exact HDN.out
          rw [← hE] at HFQ
          have hpos : (flushR D).2 = 0 ∨ 0 < (flushR D).2 := by
            unfold flushR
            split
            · unfold stepR; split
              · exact .inr (by show (0 : Int) < 11; omega)
              · exact .inl rfl
            · exact .inl rfl
          have HS1 := Lib.hid (fun W => same_erW (flushR D).2 hpos W)
          clear hkf hE hpos
          generalize (flushR D).1 = D2 at *
          generalize (flushR D).2 = er at *
          generalize (flushQ R).1 = R2 at *
          unfold ptr at HFP HFQ
          generalize erV er = ev at *
          have HG2 := Lib.hid (hg2.mono (show k ≤ k + 1 by omega))
          have HDN2 := Lib.hid hDN2
          clear hg2 hDN2
          go_wp2_with fail
          refine HFP.out.mono ?_
          rintro e wa ⟨rfl, hta⟩
          have HTa := Lib.hid hta
          clear hta
          go_wp2_with fail
          refine (HFQ.out _ _ HTa.out).mono ?_
          rintro e wb ⟨rfl, htb⟩
          have HTb := Lib.hid htb
          clear htb
          go_wp2_with (go_at_call 16; refine (HS1.out _).mono ?_; rintro e wq ⟨rfl, rfl⟩)
          have cdn := HTb.out.downQ
          rw [← HG2.out.down] at cdn
          have HDQ := Lib.hid (fun W hW => HTb.out.downW (W := W) hW)
          have HT9 := Lib.hid (show Two (fun _ => True) w1 base (base + 1) base q D2 R2 wb from ⟨HTb.out.dk, HTb.out.rk, HTb.out.bel, trivial⟩)
          clear HTb HT6 HTa
          unfold ptr at HDQ
          have HNE := Lib.hid (show ((D2).down != (D2).down) = false by cases (D2).down <;> rfl)
          obtain ⟨dw, hdw⟩ : ∃ dw, (D2).down = dw := ⟨_, rfl⟩
          rw [hdw] at cdn HDQ HNE
          have hne := HNE.out
          clear hdw HNE
          go_wp2_with fail
          go_quiet (first | (go_at_call 27; refine quiet_eqD (HDQ.out _ rfl)))
          go_wp2_with fail
          go_roundw
          case rel => exact ⟨k + 1, D2, R2, by omega, by go_num, HDN2.out, HT9.out.below kp_true (below_drewN _ _), HG2.out⟩
          case measure => simp [intOf]; omega
        have ek3 : (f.kind.toList == [102, 108, 117, 115, 104]) = false := by rw [beq_eq_false_iff_ne]; exact hkf
        clear hkf
        by_cases hka : f.kind.toList = [97, 114, 109]
        · have ek : (f.kind.toList == [97, 114, 109]) = true := by rw [hka]; rfl
          have HAP := Lib.hid (HT6.out.armP (kp_box _ _) f.a)
          have HG2 := Lib.hid ((HGO.out.arm f.a hfa).mono (show k ≤ k + 1 by omega))
          have HDN2 := Lib.hid (show ({ D with left := f.a } : Dk).n = n from HDN.out)
          clear hka
          unfold ptr at HAP
          go_wp2_with fail
          refine HAP.out.mono ?_
          rintro e wa ⟨rfl, hta⟩
          have b1 := hta.k.cell 3
          obtain ⟨c3, f3, htb⟩ := hta.fuse (kp_box _ _) (fuseOf f.a)
          have HTb := Lib.hid htb
          clear hta htb
          go_wp2_with fail
          all_goals (
            have hfu : fuseOf f.a = f.a ∨ fuseOf f.a = -1 := by unfold fuseOf; split <;> first | exact .inl rfl | exact .inr rfl
            have hfu2 : fuseOf f.a = if f.a < -1 then -1 else f.a := rfl
            first
              | (replace hfu : fuseOf f.a = f.a := by rw [hfu2]; split <;> omega)
              | (replace hfu : fuseOf f.a = -1 := by rw [hfu2]; split <;> omega)
            rw [hfu] at HTb HG2
            clear hfu hfu2
            have cdn := HTb.out.downQ
            rw [← HG2.out.down] at cdn
            have HDQ := Lib.hid (fun W hW => HTb.out.downW (W := W) hW)
            have HT9 := Lib.hid HTb.out.free
            clear HTb HT6 HAP c3 f3
            unfold ptr at HDQ
            have HNE := Lib.hid (show (({ D with left := f.a } : Dk).down != ({ D with left := f.a } : Dk).down) = false by cases ({ D with left := f.a } : Dk).down <;> rfl)
            obtain ⟨dw, hdw⟩ : ∃ dw, ({ D with left := f.a } : Dk).down = dw := ⟨_, rfl⟩
            rw [hdw] at cdn HDQ HNE
            have hne := HNE.out
            clear hdw HNE
            go_wp2_with fail
            go_quiet (first | (go_at_call 27; refine quiet_eqD (HDQ.out _ rfl)))
            go_wp2_with fail
            go_roundw
            case rel => exact ⟨k + 1, { D with left := f.a }, _, by omega, by go_num, HDN2.out, HT9.out.below kp_true (below_drewN _ _), HG2.out⟩
            case measure => simp [intOf]; omega)
        have ek4 : (f.kind.toList == [97, 114, 109]) = false := by rw [beq_eq_false_iff_ne]; exact hka
        clear hka
        have HRP := Lib.hid (HT6.out.restartP (kp_box _ _) HGO.out (by omega) f.k hfk)
        have HRQ := Lib.hid (fun D' W (h : Two (fun W => Blk W wr.heap.size tDd #[.string f.kind, .string f.s, .string f.t, .int .i64 f.a, .int .u64 f.k, .slice f.A f.n f.c]) w1 base (base + 1) base q D' R W) => h.restartQ' (kp_box _ _) HGO.out (by rw [HDN.out]; exact hn2') (by rw [HDN.out]; exact hn1') (by omega) f.k hfk)
        have HG2 := Lib.hid ((HGO.out.restart f.k).mono (show k ≤ k + 1 by omega))
        have HDN2 := Lib.hid (show (restartR f.k D).n = n from HDN.out)
        generalize restartR f.k D = D2 at *
        generalize restartQ f.k R = R2 at *
        unfold ptr at HRP HRQ
        · go_wp2_with fail
          refine HRP.out.mono ?_
          rintro e wa ⟨rfl, hta⟩
          have b1 := hta.k.cell 4
          have HTa := Lib.hid hta
          clear hta
          go_wp2_with fail
          refine (HRQ.out _ _ HTa.out).mono ?_
          rintro e wb ⟨rfl, htb⟩
          have HTb := Lib.hid htb
          clear htb
          have cdn := HTb.out.downQ
          rw [← HG2.out.down] at cdn
          have HDQ := Lib.hid (fun W hW => HTb.out.downW (W := W) hW)
          have HT9 := Lib.hid (show Two (fun _ => True) w1 base (base + 1) base q D2 R2 wb from ⟨HTb.out.dk, HTb.out.rk, HTb.out.bel, trivial⟩)
          clear HTb HT6 HTa
          unfold ptr at HDQ
          have HNE := Lib.hid (show ((D2).down != (D2).down) = false by cases (D2).down <;> rfl)
          obtain ⟨dw, hdw⟩ : ∃ dw, (D2).down = dw := ⟨_, rfl⟩
          rw [hdw] at cdn HDQ HNE
          have hne := HNE.out
          clear hdw HNE
          go_wp2_with fail
          go_quiet (first | (go_at_call 27; refine quiet_eqD (HDQ.out _ rfl)))
          go_wp2_with fail
          go_roundw
          case rel => exact ⟨k + 1, D2, R2, by omega, by go_num, HDN2.out, HT9.out.below kp_true (below_drewN _ _), HG2.out⟩
          case measure => simp [intOf]; omega
      · obtain rfl : k = n1 := by omega
        have hkk : decide ((k : Int) < (k : Int)) = false := decide_eq_false (by omega)
        go_wp2_with fail
        go_loopw [17] (fun i wr => DtRel w1 base (base + 1) base q n k i wr) (fun i _ => (n + 1 - intOf i).toNat)
        case atStart => exact ⟨-1, D, R, by omega, by omega, rfl, HDN.out, HTW.out, HGO.out⟩
        case round =>
          clear HTW HGO HDN
          rename World => wy
          obtain ⟨a, D, R, ha1, ha2, rfl, hDn, htw, hgo⟩ := hrel
          have HDN := Lib.hid hDn
          have HGO := Lib.hid hgo
          have HB9 := Lib.hid (HB1.out.trans (htw.bel.mono (by rw [← hbb]; exact HB1.out.size)))
          have HRP := Lib.hid (htw.readP kp_true a)
          have HRQ := Lib.hid (fun W (h : Two (fun _ => True) w1 base (base + 1) base q D R W) => h.readQ' HGO.out (by rw [HDN.out]; exact hn2') a)
          rw [HGO.out.read a] at HRQ
          have hpos : (readR D a).2 = 0 ∨ 0 < (readR D a).2 := by
            unfold readR
            split
            · exact .inr (by show (0 : Int) < 11; omega)
            · split
              · exact .inl rfl
              · exact .inr (by show (0 : Int) < 1; omega)
          have HS1 := Lib.hid (fun W => same_erW (readR D a).2 hpos W)
          clear hpos hDn hgo htw
          generalize (readR D a).1 = rs at *
          generalize (readR D a).2 = er at *
          unfold ptr at HRP HRQ
          generalize erV er = ev at *
          by_cases hle : a ≤ n
          · go_wp2_with fail
            refine HRP.out.mono ?_
            rintro e wb ⟨rfl, htb⟩
            have HTb := Lib.hid htb
            clear htb
            go_wp2_with (first | (go_at_call 21; refine (HRQ.out _ HTb.out).mono ?_; rintro e wq ⟨rfl, rfl⟩) | (go_at_call 16; refine (HS1.out _).mono ?_; rintro e wq ⟨rfl, rfl⟩))
            go_roundw
            case rel => exact ⟨a + 1, D, R, by omega, by omega, by go_num, HDN.out, HTb.out, HGO.out⟩
            case measure => simp [intOf]; omega
          · go_wp2_with fail
            go_ret
            exact ⟨rfl, HB9.out⟩
end Go.Proofs.Ytgkenknplepmeaa
