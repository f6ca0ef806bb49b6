/-
  WALKS: recipe.All: what it comes to, wherever each of its commands comes to what is written down for it.
-/
import Derived.Test.YtmadegpbinnnfaaDoorAllSpec
namespace Go.Proofs.YtmadegpbinnnfaaDoor
open Go.RowKit

structure AlRel (P : Nat → List F → Prop) (w : World) (g : Nat) (base : List F) (needs targets cmds : List ByteArray) (r : Int × List F) (i : Value) (wr : World) : Prop where
  ex : ∃ (k : Nat) (own : List F), k ≤ cmds.length ∧ i = .int .i64 k ∧ P k own ∧ OvA wr g base needs targets own ∧ r = allR base needs targets (cmds.drop k) own ∧ Below w.heap.size w wr

set_option maxHeartbeats 2000000 in
set_option maxRecDepth 100000 in
theorem all_any (P : Nat → List F → Prop) (ph : Bool) (A An At Ac : Option Addr) (n c nn cn nt ct nc cc : Nat) (base : List F) (needs targets cmds : List ByteArray) (r : Int × List F) (w : World)
    (h : RdF w w.heap.size A n c base) (h1 : RdS w w.heap.size An nn cn needs) (h2 : RdS w w.heap.size At nt ct targets) (h3 : RdS w w.heap.size Ac nc cc cmds)
    (hn : n ≤ 800000) (hn1 : nn ≤ 800000) (hn2 : nt ≤ 800000) (hn3 : nc ≤ 800000) (hm : MaxOk w) (hP : P 0 [])
    (hrun : ∀ k own cmd g W, cmds[k]? = some cmd → P k own → OvA W g base needs targets own → MaxOk W → Calls Tryd.prog 17 #[.pointer (some ⟨g, 0, none⟩), .string cmd] W (RunPost g base needs targets (runR base needs targets own (words cmd)) W))
    (hkeep : ∀ k own cmd, cmds[k]? = some cmd → P k own → (runR base needs targets own (words cmd)).1 = 0 → P (k + 1) (runR base needs targets own (words cmd)).2)
    (hlen : ∀ k own, P k own → own.length ≤ 800000) (hr : r = allR base needs targets cmds []) :
    Calls Tryd.prog 13 #[.slice A n c, .agg #[.slice At nt ct, .slice An nn cn, .slice Ac nc cc, .bool ph]] w (AllPost r w) := by
  have hb0 : Below w.heap.size w (w.alloc (.cells #[.slice At nt ct, .slice An nn cn, .slice Ac nc cc, .bool ph] 34)) := (Below.refl _ _).alloc (Nat.le_refl _) _
  have H := Lib.hid (h.belowS hb0)
  have H1 := Lib.hid (h1.belowS hb0)
  have H2 := Lib.hid (h2.belowS hb0)
  have H3 := Lib.hid (h3.belowS hb0)
  have HM := Lib.hid (hm.below hb0)
  have HLC := Lib.hid h3.1
  have HLT := Lib.hid h2.1
  have HRUN := Lib.hid hrun
  have HKEEP := Lib.hid hkeep
  have HLEN := Lib.hid hlen
  have HP := Lib.hid hP
  have HR := Lib.hid hr
  clear h h1 h2 h3 hm hrun hkeep hlen hP hr
  go_enter Tryd.func13, Tryd.ntmps13
  go_wp2_with fail
  refine (new_any A An At n c nn cn nt ct base needs targets _ H.out H1.out H2.out (by omega) (by omega) (by omega)).mono ?_
  rintro e w2 ⟨g, rfl, hg2, hov, hb2⟩
  have z0 : w2.cell? ⟨w.heap.size, 0, none⟩ = some (.slice At nt ct) := by
    rw [hb2.cell (p := ⟨w.heap.size, 0, none⟩) (by simp), World.cell?_alloc_at _ _ _ _ rfl]; rfl
  have z2 : w2.cell? ⟨w.heap.size, 2, none⟩ = some (.slice Ac nc cc) := by
    rw [hb2.cell (p := ⟨w.heap.size, 2, none⟩) (by simp), World.cell?_alloc_at _ _ _ _ rfl]; rfl
  have hlw : w.heap.size < w2.heap.size := by have := hb2.size; simp at this; omega
  have H3' := Lib.hid (H3.out.belowS hb2)
  have HM' := Lib.hid (HM.out.below hb2)
  have hbw : Below w.heap.size w w2 := hb0.trans (hb2.mono (by simp))
  have hgl : g < w2.heap.size := hov.lt
  have hgw : w.heap.size + 1 ≤ g := by simpa using hg2
  have HOV := Lib.hid hov
  have Z0 := Lib.hid z0
  generalize w.alloc (.cells #[.slice At nt ct, .slice An nn cn, .slice Ac nc cc, .bool ph] 34) = w1 at *
  clear H H1 H2 H3 HM hov hb2 hb0 z0 hg2
  go_wp2
  go_loopw [20] (fun i wr => AlRel P w g base needs targets cmds r i wr ∧ wr.cell? ⟨w.heap.size, 0, none⟩ = some (.slice At nt ct) ∧ RdS wr wr.heap.size Ac nc cc cmds ∧ MaxOk wr) (fun i _ => nc - (intOf i).toNat)
  case atStart => exact ⟨⟨0, [], Nat.zero_le _, rfl, HP.out, HOV.out, HR.out, hbw⟩, Z0.out, H3'.out, HM'.out⟩
  case round =>
    obtain ⟨⟨k, own, hk, rfl, hp, hov, hr, hb⟩, y0, hrc, hmo⟩ := hrel
    have hkn : k ≤ nc := by rw [← HLC.out]; exact hk
    clear hk
    have HV := Lib.hid hov
    have HPK := Lib.hid hp
    have HRK := Lib.hid hr
    have HB := Lib.hid hb
    have Y0 := Lib.hid y0
    have HRC := Lib.hid hrc
    have HMO := Lib.hid hmo
    clear hov hp hr hb hrc hmo
    by_cases hlt : k < nc
    · obtain ⟨cmd, hx⟩ : ∃ x, cmds[k]? = some x := ⟨_, List.getElem?_eq_getElem (by rw [HLC.out]; exact hlt)⟩
      obtain ⟨b', off, rfl, hbb, hc⟩ := HRC.out.at_ hx
      have hkz : (k : Int) < (nc : Int) := by omega
      have HX := Lib.hid hx
      clear hx
      by_cases h0 : (runR base needs targets own (words cmd)).1 = 0
      · have H0 := Lib.hid h0
        clear h0
        go_wp2_with fail
        refine (HRUN.out k own cmd g wr HX.out HPK.out HV.out HMO.out).mono ?_
        rintro e w3 ⟨rfl, hov3, hg3⟩
        rw [H0.out, errV_zero]
        have hl := HLEN.out k own HPK.out
        have hns : NoStr wr g := HV.out.noStr
        have hb3 : Below w.heap.size w w3 := HB.out.grown hg3 HB.out.size (fun k' hk' => by injection hk' with hk'; omega)
        have y3 : w3.cell? ⟨w.heap.size, 0, none⟩ = some (.slice At nt ct) := hg3.cell Y0.out (by intro e; injection e with e; have e' : w.heap.size = g := e; omega)
        have hr3 := (HRC.out.grown hg3 (Nat.le_refl _) hns).more hg3.size
        have hm3 : MaxOk w3 := HMO.out.grown hg3 HV.out.max_ne
        have HV3 := Lib.hid hov3
        have HR3 := Lib.hid hr3
        have HM3 := Lib.hid hm3
        have Y3 := Lib.hid y3
        have HB3 := Lib.hid hb3
        clear hov3 hg3 hr3 hm3 y3 hb3 hns
        go_wp2
        go_roundw
        case rel => exact ⟨⟨k + 1, _, by rw [HLC.out]; omega, by go_num, HKEEP.out k own cmd HX.out HPK.out H0.out, HV3.out, by rw [← allR_next HX.out H0.out]; exact HRK.out, HB3.out⟩, Y3.out, HR3.out, HM3.out⟩
        case measure => simp [intOf]; omega
      · have hj := HRK.out
        rw [allR_err HX.out h0] at hj
        have HJ := Lib.hid hj
        have HE := Lib.hid (errV_ne h0)
        clear h0 hj
        go_wp2_with fail
        refine (HRUN.out k own cmd g wr HX.out HPK.out HV.out HMO.out).mono ?_
        rintro e w3 ⟨rfl, hov3, hg3⟩
        rw [HE.out]
        have hb3 : Below w.heap.size w w3 := HB.out.grown hg3 HB.out.size (fun k' hk' => by injection hk' with hk'; omega)
        go_wp2
        go_ret2
        exact ⟨none, 0, 0, by rw [HJ.out, HE.out]; rfl, by rw [HJ.out]; exact RdF.nil _ _, hb3⟩
    · obtain rfl : k = nc := by omega
      have hl := HLEN.out k own HPK.out
      have hj := HRK.out
      rw [allR_end (by rw [HLC.out]; exact Nat.le_refl _)] at hj
      have HJ0 := Lib.hid hj
      clear hj
      go_wp2_with fail
      refine (own_any g base needs targets own wr HV.out (by omega)).mono ?_
      rintro e w3 ⟨v, rfl, hown, hb3⟩
      obtain ⟨A3, c3, rfl, hr3⟩ := RdF.of_own hown
      have y3 : w3.cell? ⟨w.heap.size, 0, none⟩ = some (.slice At nt ct) := (hb3.cell (p := ⟨w.heap.size, 0, none⟩) (World.block_lt_of_cell? _ _ Y0.out)).trans Y0.out
      have hbw3 : Below w.heap.size w w3 := HB.out.trans (hb3.mono HB.out.size)
      have HR3 := Lib.hid hr3
      have HB3 := Lib.hid hbw3
      clear hr3 hown hb3 hbw3
      have hj := HJ0.out
      by_cases hlt2 : own.length < targets.length
      · rw [if_pos hlt2] at hj
        have HJ := Lib.hid hj
        have t1 : (own.length : Int) < (nt : Int) := by have := HLT.out; omega
        clear hj hlt2 HJ0
        go_wp2
        go_ret2
        exact ⟨none, 0, 0, by rw [HJ.out]; rfl, by rw [HJ.out]; exact RdF.nil _ _, HB3.out⟩
      · rw [if_neg hlt2] at hj
        have HJ := Lib.hid hj
        have t1 : decide (own.length < nt) = false := decide_eq_false (by have := HLT.out; omega)
        have t2 : ¬ own.length < nt := by have := HLT.out; omega
        clear hj hlt2 HJ0
        go_wp2
        go_ret2
        exact ⟨A3, _, c3, by rw [HJ.out]; rfl, by rw [HJ.out]; exact HR3.out, HB3.out⟩
end Go.Proofs.YtmadegpbinnnfaaDoor
