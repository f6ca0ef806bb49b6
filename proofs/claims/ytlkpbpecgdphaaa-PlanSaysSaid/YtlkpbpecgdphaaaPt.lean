/-
  WORDS FOR MEMORY and WALK: hammerpondlaw.PlanSays: the call returns true, whatever the texts, the files, the records, the answers.
-/
import Derived.Test.YtlkpbpecgdphaaaMo
import Derived.Deep.DeepCutAuto
import Derived.Test.YtlkpbpecgdphaaaRefGet
import Derived.Test.YtlkpbpecgdphaaaPm
import Derived.Test.YtlkpbpecgdphaaaPo
import Derived.Test.YtlkpbpecgdphaaaFew
namespace Go.Proofs.Ytlkpbpecgdphaaa
open Go.RowKit

def MoP (r : Nat × Mk) (w : World) (e : Ending) (w' : World) : Prop := ∃ vv vr vp R, e = .returned (.tuple #[.agg #[vv, vr, vp], .int .i64 r.1]) ∧ MkRd w' r.2 vv vr vp R ∧ Below w.heap.size w w'
set_option maxHeartbeats 4000000 in
set_option maxRecDepth 100000 in
theorem makeOf_any (s : ByteArray) (w : World) (hz : s.size ≤ 9223372036854775807) : Calls Try.prog 7 #[.string s] w (MoPost s w) := by
  obtain ⟨r, hr⟩ : ∃ r, r = parseR s := ⟨_, rfl⟩
  have HR := Lib.hid hr
  show Calls _ _ _ _ (MoP (parseR s) w)
  rw [← hr]
  clear hr
  by_cases h600 : 600 < s.size
  · have t1 : (600 : Int) < (s.size : Int) := by omega
    have hx := HR.out
    unfold parseR at hx
    rw [if_pos h600] at hx
    have HX := Lib.hid hx
    clear hx
    have hb1 : Below w.heap.size w (w.alloc (.cells #[.slice none 0 0, .slice none 0 0, .slice none 0 0] 36)) := (Below.refl _ _).alloc (Nat.le_refl _) _
    go_enter Try.func7, Try.ntmps7
    have c0 : (w.alloc (.cells #[.slice none 0 0, .slice none 0 0, .slice none 0 0] 36)).cell? ⟨w.heap.size, 0, none⟩ = some (.slice none 0 0) := by rw [World.cell?_alloc_at _ _ _ _ rfl]; rfl
    have c1 : (w.alloc (.cells #[.slice none 0 0, .slice none 0 0, .slice none 0 0] 36)).cell? ⟨w.heap.size, 1, none⟩ = some (.slice none 0 0) := by rw [World.cell?_alloc_at _ _ _ _ rfl]; rfl
    have c2 : (w.alloc (.cells #[.slice none 0 0, .slice none 0 0, .slice none 0 0] 36)).cell? ⟨w.heap.size, 2, none⟩ = some (.slice none 0 0) := by rw [World.cell?_alloc_at _ _ _ _ rfl]; rfl
    go_wp2
    refine bodyPost_ret (v := .tuple #[.agg #[.slice none 0 0, .slice none 0 0, .slice none 0 0], .int .i64 2]) ?_ rfl ?_
    · simp [results, Try.f7, go_sem, c0, c1, c2]
    · exact ⟨.slice none 0 0, .slice none 0 0, .slice none 0 0, [], by rw [HX.out]; rfl, by rw [HX.out]; exact mkRd0 _, hb1⟩
  have t1 : decide ((600 : Int) < (s.size : Int)) = false := decide_eq_false (by omega)
  have hx := HR.out
  unfold parseR at hx
  rw [if_neg h600] at hx
  have HX := Lib.hid hx
  clear hx HR
  have hM := Mo.start w
  have HM := Lib.hid hM
  have hll := lines_len s
  have HLS := Lib.hid (fun x (hx : x ∈ lines s) => lines_size hx)
  clear hM
  go_enter Try.func7, Try.ntmps7
  go_wp2_with fail
  generalize (w.alloc (.cells #[.slice none 0 0, .slice none 0 0, .slice none 0 0] 36)).alloc (.cells #[.slice none 0 0, .slice none 0 0, .slice none 0 0] 36) = w2 at *
  refine (refSplitN_any s w2 (by omega)).mono ?_
  rintro e w3 ⟨vl, rfl, hol, hb3⟩
  obtain ⟨Al, cl, rfl⟩ := own_slice hol
  have HM3 := Lib.hid (HM.out.below hb3)
  have HOL := Lib.hid hol
  have hw2 : w.heap.size + 1 < w2.heap.size := HM.out.lt
  clear hol hb3
  generalize hn : (lines s).length = n at *
  have HN := Lib.hid hn
  clear hn
  go_wp2
  go_loopw [6] (fun i wr => MoRel s w w2.heap.size (.slice Al n cl) i wr) (fun i _ => n - (intOf i).toNat)
  case atStart => exact ⟨0, mk0, .slice none 0 0, .slice none 0 0, .slice none 0 0, [], Nat.zero_le _, rfl, rfl, sane0, few0, HM3.out, fun W _ _ => mkRd0 W, by rw [HN.out]; exact HOL.out⟩
  case round =>
    obtain ⟨k, m, vv, vr, vp, R, hk, rfl, hls, hsn, hfw, hmo, hfar, hol⟩ := hrel.ex
    rw [HN.out] at hk hol
    have hrd := hfar.rd
    obtain ⟨Av, cv, rfl, _⟩ := hrd.vars
    obtain ⟨Ar, cr, rfl, _⟩ := hrd.rules
    obtain ⟨Ap, cp, rfl, _⟩ := hrd.phony
    have HLN := Lib.hid hls
    have HSN := Lib.hid hsn
    have HFW := Lib.hid hfw
    have HMO := Lib.hid hmo
    have HFA := Lib.hid hfar
    have HOL2 := Lib.hid hol
    obtain ⟨c0, c1, c2, f0, f1, f2⟩ := hmo.cells4
    obtain ⟨_, _, el, hrl⟩ := RdS.of_own hol
    simp only [Value.slice.injEq, true_and] at el
    obtain ⟨rfl, rfl⟩ := el
    have HRL := Lib.hid hrl
    clear hrel hls hsn hfw hmo hfar hol hrl hrd
    generalize hx1 : m.vars.length = nv at *
    generalize hx2 : R.length = nr at *
    generalize hx3 : m.phony.length = np at *
    clear hx1 hx2 hx3
    by_cases hlt : k < n
    · obtain ⟨x, hx⟩ : ∃ x, (lines s)[k]? = some x := ⟨_, List.getElem?_eq_getElem (by rw [HN.out]; exact hlt)⟩
      obtain ⟨b', off, rfl, _, hcx⟩ := HRL.out.at_ hx
      have hkz : (k : Int) < (n : Int) := by omega
      have hxs : x.size ≤ 600 := Nat.le_trans (HLS.out x (List.mem_of_getElem? hx)) (by omega)
      have HXK := Lib.hid hx
      clear hx
      go_upto_region 8 with fail
      have HMRa := Lib.hid (show MkRd ((wr.alloc (.cells #[.slice none 0 0, .slice none 0 0, .slice none 0 0] 36)).drew) m (.slice Av nv cv) (.slice Ar nr cr) (.slice Ap np cp) R from (HFA.out.below (((Below.refl _ _).alloc (Nat.le_refl _) _).drew)).rd)
      have HMRb := Lib.hid (show MkRd wr.drew m (.slice Av nv cv) (.slice Ar nr cr) (.slice Ap np cp) R from (HFA.out.below ((Below.refl _ _).drew)).rd)
      have HA := Lib.hid (show Below wr.heap.size wr ((wr.alloc (.cells #[.slice none 0 0, .slice none 0 0, .slice none 0 0] 36)).drew) from ((Below.refl _ _).alloc (Nat.le_refl _) _).drew)
      have HKA := Lib.hid (show ((wr.alloc (.cells #[.slice none 0 0, .slice none 0 0, .slice none 0 0] 36)).drew).heap[wr.heap.size]? = some (.cells #[.slice none 0 0, .slice none 0 0, .slice none 0 0] 36 (0, 0)) from World.alloc_heap_new _ _)
      have HBb := Lib.hid (show Below wr.heap.size wr wr.drew from (Below.refl _ _).drew)
      have hsan := HSN.out.mono (by omega : k ≤ 700)
      have HSA := Lib.hid hsan
      have q0 : wr.drew.cell? ⟨w.heap.size + 1, 0, none⟩ = some (.slice Av nv cv) := c0
      have q1 : wr.drew.cell? ⟨w.heap.size + 1, 1, none⟩ = some (.slice Ar nr cr) := c1
      have q2 : wr.drew.cell? ⟨w.heap.size + 1, 2, none⟩ = some (.slice Ap np cp) := c2
      have q3 : wr.drew.cell? ⟨b', off + k, none⟩ = some (.string x) := hcx
      have hwr : w.heap.size + 1 < wr.heap.size := HMO.out.lt
      have hbl : b' < wr.heap.size := World.block_lt_of_cell? _ _ hcx
      have p0 : ((wr.alloc (.cells #[.slice none 0 0, .slice none 0 0, .slice none 0 0] 36)).drew).cell? ⟨w.heap.size + 1, 0, none⟩ = some (.slice Av nv cv) := (HA.out.cell (p := ⟨w.heap.size + 1, 0, none⟩) hwr).trans c0
      have p1 : ((wr.alloc (.cells #[.slice none 0 0, .slice none 0 0, .slice none 0 0] 36)).drew).cell? ⟨w.heap.size + 1, 1, none⟩ = some (.slice Ar nr cr) := (HA.out.cell (p := ⟨w.heap.size + 1, 1, none⟩) hwr).trans c1
      have p2 : ((wr.alloc (.cells #[.slice none 0 0, .slice none 0 0, .slice none 0 0] 36)).drew).cell? ⟨w.heap.size + 1, 2, none⟩ = some (.slice Ap np cp) := (HA.out.cell (p := ⟨w.heap.size + 1, 2, none⟩) hwr).trans c2
      have p3 : ((wr.alloc (.cells #[.slice none 0 0, .slice none 0 0, .slice none 0 0] 36)).drew).cell? ⟨b', off + k, none⟩ = some (.string x) := (HA.out.cell (p := ⟨b', off + k, none⟩) hbl).trans hcx
      clear hsan
      go_cut [7, 8] (fun p f wx => ∃ (b7 : Nat) (A1 : Option Addr) (n1 k1 : Nat) (A2 : Option Addr) (n2 k2 : Nat) (A3 : Option Addr) (n3 k3 : Nat) (R' : List Row3), p = .pointer (some ⟨b7, 0, none⟩) ∧ f = .int .i64 (lineR m x).1 ∧ MoCut w wr (fun b => b = w.heap.size ∨ b = w.heap.size + 1) (lineR m x).2 (.slice A1 n1 k1) (.slice A2 n2 k2) (.slice A3 n3 k3) R' b7 wx)
      case first =>
        go_region_with
          (first
            | (go_at_call 19; refine (lined_any m (.slice Av nv cv) (.slice Ar nr cr) (.slice Ap np cp) R x ((wr.alloc (.cells #[.slice none 0 0, .slice none 0 0, .slice none 0 0] 36)).drew) HMRa.out HSA.out HFW.out hxs).mono ?_; rintro e w4a ⟨vv', vr', vp', R', rfl, hb4, hX⟩; have hrd := (hX (fun _ => False) (fun b hb => hb.elim) (HMRa.out).far).rd; obtain ⟨A1, k1, rfl, _⟩ := hrd.vars; obtain ⟨A2, k2, rfl, _⟩ := hrd.rules; obtain ⟨A3, k3, rfl, _⟩ := hrd.phony; have HXa := Lib.hid hX; have HB4a := Lib.hid (HA.out.trans (hb4.mono HA.out.size)); have HK4a := Lib.hid ((hb4.block _ (Array.getElem?_eq_some_iff.1 HKA.out).1).trans HKA.out); obtain ⟨z0, z1, z2, z3, z4, z5⟩ := zmake HK4a.out; clear hX hb4 hrd)
            | (go_at_call 19; refine (lined_any m (.slice Av nv cv) (.slice Ar nr cr) (.slice Ap np cp) R x wr.drew HMRb.out HSA.out HFW.out hxs).mono ?_; rintro e w4 ⟨vv', vr', vp', R', rfl, hb4, hX⟩; have hrd := (hX (fun _ => False) (fun b hb => hb.elim) (HMRb.out).far).rd; obtain ⟨A1, k1, rfl, _⟩ := hrd.vars; obtain ⟨A2, k2, rfl, _⟩ := hrd.rules; obtain ⟨A3, k3, rfl, _⟩ := hrd.phony; have HXb := Lib.hid hX; have HB4 := Lib.hid (HBb.out.trans (hb4.mono HBb.out.size)); clear hX hb4 hrd))
        all_goals (
          go_wp2_with fail
          go_meet
          first
          | (refine ⟨_, A1, _, k1, A2, _, k2, A3, _, k3, R', rfl, rfl, World.alloc_heap_new _ _, HB4.out.size, HB4.out.alloc HB4.out.size _, ?_⟩
             exact (HXb.out _ (fun b hb => by show b < wr.heap.size; omega) (HFA.out.below HBb.out)).below ((Below.refl _ _).alloc (Nat.le_refl _) _))
          | (obtain ⟨s1, s2⟩ := set3 HK4a.out (.slice A1 _ k1) (.slice A2 _ k2) (.slice A3 _ k3)
             refine ⟨_, A1, _, k1, A2, _, k2, A3, _, k3, R', rfl, rfl, s1, Nat.le_refl _, HB4a.out.grown s2 HB4a.out.size (fun j hj => by injection hj with hj; omega), ?_⟩
             exact ((HXa.out (fun b => (b = w.heap.size ∨ b = w.heap.size + 1) ∨ b = wr.heap.size) (fun b hb => by show b < (wr.alloc (.cells #[.slice none 0 0, .slice none 0 0, .slice none 0 0] 36)).heap.size; rw [World.size_alloc]; omega) (HFA.out.plus HA.out)).grown s2 (.inr rfl)).less (fun b hb => .inl hb)))
      case rest =>
        obtain ⟨b7, A1, n1, k1, A2, n2, k2, A3, n3, k3, R', rfl, rfl, hcut⟩ := hcut
        generalize wc = w5 at *
        have HC := Lib.hid hcut
        have hb5 := hcut.bel
        have HM5 := Lib.hid (HMO.out.below hb5)
        have HO5 := Lib.hid (rdS_below (show Own1 wr w2.heap.size (.slice (some ⟨b', off, none⟩) n cl) (lines s) by unfold Own1; rw [HN.out]; exact HOL2.out) hb5)
        have hblk := hcut.blk
        have y0 : w5.cell? ⟨b7, 0, none⟩ = some (.slice A1 n1 k1) := by simp [World.cell?, hblk]
        have y1 : w5.cell? ⟨b7, 1, none⟩ = some (.slice A2 n2 k2) := by simp [World.cell?, hblk]
        have y2 : w5.cell? ⟨b7, 2, none⟩ = some (.slice A3 n3 k3) := by simp [World.cell?, hblk]
        have hdr : (lines s).drop k = x :: (lines s).drop (k + 1) := by
          rw [List.drop_eq_getElem_cons (by rw [HN.out]; exact hlt), (List.getElem?_eq_some_iff.1 HXK.out).2]
        have hls := HLN.out
        rw [hdr, linesR] at hls
        have HLS2 := Lib.hid hls
        have HSL := Lib.hid (HSN.out.line x hxs)
        have HFL := Lib.hid (HFW.out.line x)
        clear hcut hb5 hblk hdr hls c0 c1 c2 f0 f1 f2 q0 q1 q2 q3 p0 p1 p2 p3 hcx
        obtain ⟨c0, c1, c2, f0, f1, f2⟩ := HM5.out.cells4
        obtain ⟨d0, d1, d2, e0, e1, e2⟩ := HM5.out.cells2
        revert HC HLS2 HSL HFL
        generalize lineR m x = lr
        obtain ⟨le, lm⟩ := lr
        intro HC HLS2 HSL HFL
        dsimp only at HC HLS2 HSL HFL ⊢
        cases le with
        | succ le =>
          have hls := HLS2.out
          rw [if_neg (by omega)] at hls
          have hx := HX.out
          rw [hls, if_pos (by simp)] at hx
          have HX2 := Lib.hid hx
          clear hx hls
          have hpos : (0 : Int) < ((le + 1 : Nat) : Int) := by omega
          obtain ⟨z, hze⟩ : ∃ z : Int, z = ((le + 1 : Nat) : Int) := ⟨_, rfl⟩
          rw [← hze] at hpos ⊢
          have HZE := Lib.hid hze
          clear hze
          obtain ⟨g0, g1, g2, _, gb⟩ := HM5.out.ret (.slice none 0 0) (.slice none 0 0) (.slice none 0 0)
          have HGB := Lib.hid gb
          clear gb
          go_wp2
          refine bodyPost_ret (v := .tuple #[.agg #[.slice none 0 0, .slice none 0 0, .slice none 0 0], .int .i64 z]) ?_ rfl ?_
          · simp [results, Try.f7, go_sem, g0, g1, g2]
          · exact ⟨_, _, _, [], by rw [HX2.out, HZE.out], by rw [HX2.out]; exact mkRd0 _, HGB.out⟩
        | zero =>
          have hls := HLS2.out
          rw [if_pos rfl] at hls
          have HLS3 := Lib.hid hls
          clear hls HLS2
          simp only [Int.ofNat_zero]
          obtain ⟨hM6, g6⟩ := HM5.out.setM (.slice A1 n1 k1) (.slice A2 n2 k2) (.slice A3 n3 k3)
          have HM6 := Lib.hid hM6
          have HF6 := Lib.hid (HC.out.far.grown g6 (.inr rfl))
          have HO6 := Lib.hid (HO5.out.kept g6 (.inr (Ne.symm (row_not_blk HO5.out HM5.out.k4 (by decide)))))
          clear hM6 g6
          go_wp2
          go_roundw
          case rel => exact ⟨k + 1, lm, _, _, _, R', by rw [HN.out]; omega, by go_num, HLS3.out, HSL.out, HFL.out, HM6.out, HF6.out, HO6.out⟩
          case measure => simp [intOf]; omega
    · obtain rfl : n = k := by omega
      have hls := HLN.out
      rw [List.drop_of_length_le (by rw [HN.out]; omega), linesR] at hls
      have hx := HX.out
      rw [hls, if_neg (by simp)] at hx
      have HX2 := Lib.hid hx
      clear hx hls
      go_wp2_with fail
      refine (fault_any m (.slice Av nv cv) (.slice Ar nr cr) (.slice Ap np cp) R wr HFA.out.rd (HSN.out.mono (by omega)) HFW.out).mono ?_
      rintro e w5 ⟨rfl, hb5⟩
      have HM5 := Lib.hid (HMO.out.below hb5)
      have HF5 := Lib.hid (HFA.out.below hb5)
      clear hb5 c0 c1 c2 f0 f1 f2
      obtain ⟨c0, c1, c2, f0, f1, f2⟩ := HM5.out.cells4
      obtain ⟨d0, d1, d2, e0, e1, e2⟩ := HM5.out.cells2
      cases hch : checkR m with
      | true =>
        have hx := HX2.out
        rw [if_pos hch] at hx
        have HX3 := Lib.hid hx
        clear hx
        rw [if_pos rfl]
        obtain ⟨g0, g1, g2, gg, gb⟩ := HM5.out.ret (.slice Av nv cv) (.slice Ar nr cr) (.slice Ap np cp)
        have HGB := Lib.hid gb
        have HF6 := Lib.hid (HF5.out.grown gg (.inl rfl)).rd
        clear gb gg
        go_wp2
        refine bodyPost_ret (v := .tuple #[.agg #[.slice Av nv cv, .slice Ar nr cr, .slice Ap np cp], .int .i64 0]) ?_ rfl ?_
        · simp [results, Try.f7, go_sem, g0, g1, g2]
        · exact ⟨_, _, _, R, by rw [HX3.out]; rfl, by rw [HX3.out]; exact HF6.out, HGB.out⟩
      | false =>
        have hx := HX2.out
        rw [if_neg (by rw [hch]; simp)] at hx
        have HX3 := Lib.hid hx
        clear hx
        rw [if_neg (by simp)]
        obtain ⟨g0, g1, g2, _, gb⟩ := HM5.out.ret (.slice none 0 0) (.slice none 0 0) (.slice none 0 0)
        have HGB := Lib.hid gb
        clear gb
        go_wp2
        refine bodyPost_ret (v := .tuple #[.agg #[.slice none 0 0, .slice none 0 0, .slice none 0 0], .int .i64 3]) ?_ rfl ?_
        · simp [results, Try.f7, go_sem, g0, g1, g2]
        · exact ⟨_, _, _, [], by rw [HX3.out]; rfl, by rw [HX3.out]; exact mkRd0 _, HGB.out⟩
end Go.Proofs.Ytlkpbpecgdphaaa
namespace Go.Proofs.Ytlkpbpecgdphaaa
open Go.RowKit

theorem rdx_own2 {w : World} {base : Nat} {A : Option Addr} {n c : Nat} {st : List Bool} (h : w.ownsRow base tBo 1 (.slice A n c) n (bcells st)) : RdX w 1 A n (bcells st) :=
  ⟨h.1, fun u hu => by obtain ⟨b, -, rfl⟩ := List.mem_map.1 hu; rfl, fun hn => by
    obtain ⟨g, c', e, -, -⟩ := h.form hn
    injection e with e1 e2 e3
    subst e1 e3
    refine ⟨g, 0, rfl, fun j u hu => ?_⟩
    have hj : j < n := by have := (List.getElem?_eq_some_iff.1 hu).1; have := h.1; omega
    rw [Nat.zero_add, h.cellAt j (by omega), hu]⟩
/-- A map of records, read at a name, now and later. -/
theorem KpM.look3 {w : World} {v : Value} {n : Nat} {K : Kp} (h : KpM w v n K) (s : ByteArray) (hs : s.size ≤ maxLen) : ∃ A0 n0 c0 A1 n1 c1 A2 n2 c2, RcV w (.agg #[.slice A0 n0 c0, .slice A1 n1 c1, .slice A2 n2 c2]) ((lookK K s).getD noR) ∧
    ∀ W, Below w.heap.size w W → (Instr.lookup 43 v (.string s) true).run Try.prog W = .ok (.tuple #[.agg #[.slice A0 n0 c0, .slice A1 n1 c1, .slice A2 n2 c2], .bool (lookK K s).isSome]) W := by
  obtain ⟨M, hM, hMK⟩ := h
  rcases hMK s with ⟨h1, h2⟩ | ⟨u, r, h1, h2, h3⟩
  · refine ⟨none, 0, 0, none, 0, 0, none, 0, 0, by rw [h1]; exact RcV.zero w, fun W hb => ?_⟩
    have hrun := (hM.below hb).look_ok Try.underlying43 (zeroRec W) s hs
    rw [h2] at hrun
    rw [h1]
    exact hrun
  · have h3' := h3
    obtain ⟨A0, n0, c0, A1, n1, c1, A2, n2, c2, rfl, r0, r1, r2⟩ := h3
    refine ⟨A0, n0, c0, A1, n1, c1, A2, n2, c2, by rw [h2]; exact h3', fun W hb => ?_⟩
    have hrun := (hM.below hb).look_ok Try.underlying43 (zeroRec W) s hs
    rw [h1] at hrun
    rw [h2]
    exact hrun
theorem lookK_mem {α : Type} {s : ByteArray} {r : α} : ∀ {K : List (ByteArray × α)}, lookK K s = some r → (s, r) ∈ K
  | [], h => by rw [lookK_nil] at h; cases h
  | (a, u) :: K, h => by
    rw [lookK_cons] at h
    by_cases q : a = s
    · rw [if_pos q] at h; injection h with h; subst q h; exact List.mem_cons_self
    · rw [if_neg q] at h; exact List.mem_cons_of_mem _ (lookK_mem h)
def ShortK (x : ByteArray × Rcd) : Prop := x.1.size ≤ 20 ∧ FewR x.2
def PsRel (w : World) (K : Kp) (n : Nat) (i : Value) (wr : World) : Prop := ∃ k : Nat, k ≤ n ∧ i = .int .i64 k ∧ (∀ x ∈ K.take k, ShortK x) ∧ Below w.heap.size w wr
def PsPost (w : World) (e : Ending) (w' : World) : Prop := e = .returned (.bool true) ∧ Below w.heap.size w w'
/-- A record's cells under an address of one's own. -/
def CutR (w : World) (p b : Value) (is : Bool) (r : Rcd) (wx : World) : Prop := ∃ pg A0 n0 c0 A1 n1 c1 A2 n2 c2, p = .pointer (some ⟨pg, 0, none⟩) ∧ b = .bool is ∧ Blk wx pg tRec #[.slice A0 n0 c0, .slice A1 n1 c1, .slice A2 n2 c2] ∧ RcV wx (.agg #[.slice A0 n0 c0, .slice A1 n1 c1, .slice A2 n2 c2]) r ∧ Below w.heap.size w wx
theorem CutR.fresh {w wx : World} {A0 A1 A2 : Option Addr} {n0 c0 n1 c1 n2 c2 : Nat} {is : Bool} {r : Rcd} (hv : RcV wx (.agg #[.slice A0 n0 c0, .slice A1 n1 c1, .slice A2 n2 c2]) r) (hb : Below w.heap.size w wx) :
    CutR w (.pointer (some ⟨wx.heap.size, 0, none⟩)) (.bool is) is r (wx.alloc (.cells #[.slice A0 n0 c0, .slice A1 n1 c1, .slice A2 n2 c2] tRec)) :=
  ⟨_, _, _, _, _, _, _, _, _, _, rfl, rfl, Blk.new wx tRec _, hv.low ((Below.refl _ _).alloc (Nat.le_refl _) _), hb.alloc hb.size _⟩
theorem RcV.three {w : World} {p : Nat} {v : Value} {r : Rcd} (hv : RcV w v r) (hp : Blk w p tRec #[.slice none 0 0, .slice none 0 0, .slice none 0 0]) (a b d : Value) : RcV (((w.setCell ⟨p, 0, none⟩ a).setCell ⟨p, 1, none⟩ b).setCell ⟨p, 2, none⟩ d) v r := by
  have hg := (set3 (t := tRec) hp a b d).2
  generalize ((w.setCell ⟨p, 0, none⟩ a).setCell ⟨p, 1, none⟩ b).setCell ⟨p, 2, none⟩ d = w' at hg ⊢
  obtain ⟨A0, n0, c0, A1, n1, c1, A2, n2, c2, e, h0, h1, h2⟩ := hv
  have key : ∀ {b j : Nat} {s : ByteArray}, w.cell? ⟨b, j, none⟩ = some (.string s) → w'.cell? ⟨b, j, none⟩ = some (.string s) := fun {b j s} hc => by
    have hne : some b ≠ some p := fun e => by
      injection e with e
      subst e
      rw [hp.cell] at hc
      match j, hc with
      | 0, hc => cases hc
      | 1, hc => cases hc
      | 2, hc => cases hc
      | j + 3, hc => simp at hc
    exact (World.cell?_of_block (w := w) (a := ⟨b, j, none⟩) (hg.block b (World.block_lt_of_cell? _ _ hc) hne)).trans hc
  have str : ∀ {l : List F} {u : Value}, u ∈ fcells l → ∃ s, u = .string s := fun {l u} hu => by
    obtain ⟨f, -, hf⟩ := List.mem_flatMap.1 hu
    rcases List.mem_cons.1 hf with rfl | hf
    · exact ⟨_, rfl⟩
    · rw [List.mem_singleton.1 hf]; exact ⟨_, rfl⟩
  refine ⟨A0, n0, c0, A1, n1, c1, A2, n2, c2, e, ⟨h0.1, h0.2.1, h0.2.2.1, fun h => ?_⟩, ⟨h1.1, h1.2.1, h1.2.2.1, fun h => ?_⟩, ⟨h2.1, h2.2.1, h2.2.2.1, fun h => ?_⟩⟩
  · obtain ⟨b, off, e, hb, hc⟩ := h0.2.2.2 h
    exact ⟨b, off, e, Nat.lt_of_lt_of_le hb hg.size, fun j u hu => key (hc j u hu)⟩
  · obtain ⟨b, off, e, hb, hc⟩ := h1.2.2.2 h
    exact ⟨b, off, e, Nat.lt_of_lt_of_le hb hg.size, fun j u hu => by obtain ⟨s, rfl⟩ := str (List.mem_of_getElem? hu); exact key (hc j _ hu)⟩
  · obtain ⟨b, off, e, hb, hc⟩ := h2.2.2.2 h
    exact ⟨b, off, e, Nat.lt_of_lt_of_le hb hg.size, fun j u hu => by obtain ⟨s, rfl⟩ := str (List.mem_of_getElem? hu); exact key (hc j _ hu)⟩
theorem CutR.put {w wx : World} {p : Nat} {A0 A1 A2 : Option Addr} {n0 c0 n1 c1 n2 c2 : Nat} {is : Bool} {r : Rcd} (hv : RcV wx (.agg #[.slice A0 n0 c0, .slice A1 n1 c1, .slice A2 n2 c2]) r) (hb : Below w.heap.size w wx) (hp : Blk wx p tRec #[.slice none 0 0, .slice none 0 0, .slice none 0 0]) (hw : w.heap.size ≤ p) :
    CutR w (.pointer (some ⟨p, 0, none⟩)) (.bool is) is r (((wx.setCell ⟨p, 0, none⟩ (.slice A0 n0 c0)).setCell ⟨p, 1, none⟩ (.slice A1 n1 c1)).setCell ⟨p, 2, none⟩ (.slice A2 n2 c2)) :=
  ⟨p, _, _, _, _, _, _, _, _, _, rfl, rfl, ((hp.set 0 _).set 1 _).set 2 _, hv.three hp _ _ _, below3 hb hw _ _ _⟩
end Go.Proofs.Ytlkpbpecgdphaaa
