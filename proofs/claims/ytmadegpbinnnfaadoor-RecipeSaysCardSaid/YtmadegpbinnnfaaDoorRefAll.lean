/-
  WALKS: hammerpondref.All: what it comes to.
-/
import Derived.Test.YtmadegpbinnnfaaDoorAllSpec
import Derived.Test.YtmadegpbinnnfaaDoorRefRunB
namespace Go.Proofs.YtmadegpbinnnfaaDoor
open Go.RowKit

structure RaRel (w : World) (g : Nat) (base : List F) (needs targets cmds : List ByteArray) (r : Int × List F) (i : Value) (wr : World) : Prop where
  ex : ∃ (k : Nat) (own : List F), k ≤ cmds.length ∧ i = .int .i64 k ∧ Small base needs targets own ∧ own.length ≤ k ∧ OvB wr g base needs targets own ∧ r = allR base needs targets (cmds.drop k) own ∧ Below w.heap.size w wr

set_option maxHeartbeats 2000000 in
set_option maxRecDepth 100000 in
theorem refAll_any (ph : Bool) (A An At Ac : Option Addr) (n c nn cn nt ct nc cc : Nat) (base : List F) (needs targets cmds : List ByteArray) (r : Int × List F) (w : World)
    (h : RdF w w.heap.size A n c base) (h1 : RdS w w.heap.size An nn cn needs) (h2 : RdS w w.heap.size At nt ct targets) (h3 : RdS w w.heap.size Ac nc cc cmds)
    (hsm : Small base needs targets []) (hn3 : nc ≤ 700000) (hcs : ∀ x ∈ cmds, x.size ≤ 1000) (hr : r = allR base needs targets cmds []) :
    Calls Tryd.prog 14 #[.slice A n c, .agg #[.slice At nt ct, .slice An nn cn, .slice Ac nc cc, .bool ph]] w (RefAllPost r w) := by
  have hb0 : Below w.heap.size w (w.alloc (.cells #[.slice At nt ct, .slice An nn cn, .slice Ac nc cc, .bool ph] 34)) := (Below.refl _ _).alloc (Nat.le_refl _) _
  have hb1 := (Below.refl (w.alloc (.cells #[.slice At nt ct, .slice An nn cn, .slice Ac nc cc, .bool ph] 34)).heap.size (w.alloc (.cells #[.slice At nt ct, .slice An nn cn, .slice Ac nc cc, .bool ph] 34))).alloc (Nat.le_refl _) (.cells #[.slice A n c, .slice none 0 0, .slice An nn cn, .slice At nt ct] 46)
  have hov : OvB ((w.alloc (.cells #[.slice At nt ct, .slice An nn cn, .slice Ac nc cc, .bool ph] 34)).alloc (.cells #[.slice A n c, .slice none 0 0, .slice An nn cn, .slice At nt ct] 46)) (w.heap.size + 1) base needs targets [] := by
    refine ⟨A, An, At, none, n, c, nn, cn, nt, ct, 0, 0, ?_, (h.belowS hb0).belowS hb1, (h1.belowS hb0).belowS hb1, (h2.belowS hb0).belowS hb1, RdF.nil _ _⟩
    have := heap_alloc_new (w.alloc (.cells #[.slice At nt ct, .slice An nn cn, .slice Ac nc cc, .bool ph] 34)) (.cells #[.slice A n c, .slice none 0 0, .slice An nn cn, .slice At nt ct] 46)
    simpa [Four] using this
  have z0 : ((w.alloc (.cells #[.slice At nt ct, .slice An nn cn, .slice Ac nc cc, .bool ph] 34)).alloc (.cells #[.slice A n c, .slice none 0 0, .slice An nn cn, .slice At nt ct] 46)).cell? ⟨w.heap.size, 0, none⟩ = some (.slice At nt ct) := by
    rw [hb1.cell (p := ⟨w.heap.size, 0, none⟩) (by simp), World.cell?_alloc_at _ _ _ _ rfl]; rfl
  have z2 : ((w.alloc (.cells #[.slice At nt ct, .slice An nn cn, .slice Ac nc cc, .bool ph] 34)).alloc (.cells #[.slice A n c, .slice none 0 0, .slice An nn cn, .slice At nt ct] 46)).cell? ⟨w.heap.size, 2, none⟩ = some (.slice Ac nc cc) := by
    rw [hb1.cell (p := ⟨w.heap.size, 2, none⟩) (by simp), World.cell?_alloc_at _ _ _ _ rfl]; rfl
  have hbw : Below w.heap.size w ((w.alloc (.cells #[.slice At nt ct, .slice An nn cn, .slice Ac nc cc, .bool ph] 34)).alloc (.cells #[.slice A n c, .slice none 0 0, .slice An nn cn, .slice At nt ct] 46)) := hb0.trans (hb1.mono (by simp))
  have H3 := Lib.hid ((h3.belowS hb0).belowS hb1)
  have HLC := Lib.hid h3.1
  have HLT := Lib.hid h2.1
  have HBW := Lib.hid hbw
  have HOV := Lib.hid hov
  have HCS := Lib.hid hcs
  have HSM := Lib.hid hsm
  have HR := Lib.hid hr
  have Z0 := Lib.hid z0
  have Z2 := Lib.hid z2
  clear h h1 h2 h3 hcs hsm hr hb0 hb1 hov z0 z2 hbw
  go_enter Tryd.func14, Tryd.ntmps14
  go_wp2
  generalize (w.alloc (.cells #[.slice At nt ct, .slice An nn cn, .slice Ac nc cc, .bool ph] 34)).alloc (.cells #[.slice A n c, .slice none 0 0, .slice An nn cn, .slice At nt ct] 46) = w2 at *
  go_loopw [7] (fun i wr => RaRel w (w.heap.size + 1) base needs targets cmds r i wr ∧ wr.cell? ⟨w.heap.size, 0, none⟩ = some (.slice At nt ct) ∧ wr.cell? ⟨w.heap.size, 2, none⟩ = some (.slice Ac nc cc) ∧ RdS wr wr.heap.size Ac nc cc cmds) (fun i _ => nc - (intOf i).toNat)
  case atStart => exact ⟨⟨0, [], Nat.zero_le _, rfl, HSM.out, Nat.le_refl _, HOV.out, HR.out, HBW.out⟩, Z0.out, Z2.out, H3.out⟩
  case round =>
    obtain ⟨⟨k, own, hk, rfl, hp, hol, hov, hr, hb⟩, y0, y2, hrc⟩ := hrel
    have hkn : k ≤ nc := by rw [← HLC.out]; exact hk
    clear hk
    have HV := Lib.hid hov
    have HPK := Lib.hid hp
    have HRK := Lib.hid hr
    have HB := Lib.hid hb
    have Y0 := Lib.hid y0
    have Y2 := Lib.hid y2
    have HRC := Lib.hid hrc
    clear hov hp hr hb hrc
    by_cases hlt : k < nc
    · obtain ⟨cmd, hx⟩ : ∃ x, cmds[k]? = some x := ⟨_, List.getElem?_eq_getElem (by rw [HLC.out]; exact hlt)⟩
      obtain ⟨b', off, rfl, hbb, hc⟩ := HRC.out.at_ hx
      have hkz : (k : Int) < (nc : Int) := by omega
      have hcz := HCS.out cmd (List.mem_of_getElem? hx)
      have HX := Lib.hid hx
      clear hx
      by_cases h0 : (runR base needs targets own (words cmd)).1 = 0
      · have H0 := Lib.hid h0
        clear h0
        go_wp2_with fail
        refine (refRun_any _ base needs targets own cmd wr HV.out HPK.out hcz).mono ?_
        rintro e w3 ⟨rfl, hov3, hg3⟩
        rw [H0.out]
        have hns : NoStr wr (w.heap.size + 1) := HV.out.noStr
        have hb3 : Below w.heap.size w w3 := HB.out.grown hg3 HB.out.size (fun k' hk' => by injection hk' with hk'; omega)
        have y3 : w3.cell? ⟨w.heap.size, 0, none⟩ = some (.slice At nt ct) := hg3.cell Y0.out (by intro e; injection e with e; have e' : w.heap.size = w.heap.size + 1 := e; omega)
        have y4 : w3.cell? ⟨w.heap.size, 2, none⟩ = some (.slice (some ⟨b', off, none⟩) nc cc) := hg3.cell Y2.out (by intro e; injection e with e; have e' : w.heap.size = w.heap.size + 1 := e; omega)
        have hr3 := (HRC.out.grown hg3 (Nat.le_refl _) hns).more hg3.size
        have hgr := runR_grows (base := base) (needs := needs) (targets := targets) HPK.out.ro (words cmd)
        have hol3 : (runR base needs targets own (words cmd)).2.length ≤ k + 1 := by have := hgr.2.1; omega
        have HV3 := Lib.hid hov3
        have HR3 := Lib.hid hr3
        have Y3 := Lib.hid y3
        have Y4 := Lib.hid y4
        have HB3 := Lib.hid hb3
        have HL3 := Lib.hid hol3
        have HP3 := Lib.hid (HPK.out.next (by omega) (words cmd))
        clear hov3 hg3 hr3 y3 y4 hb3 hns hgr hol3
        go_wp2
        go_roundw
        case rel => exact ⟨⟨k + 1, _, by rw [HLC.out]; omega, by go_num, HP3.out, HL3.out, HV3.out, by rw [← allR_next HX.out H0.out]; exact HRK.out, HB3.out⟩, Y3.out, Y4.out, HR3.out⟩
        case measure => simp [intOf]; omega
      · have hj := HRK.out
        rw [allR_err HX.out h0] at hj
        have hnn := runR_nn (base := base) (needs := needs) (targets := targets) (own := own) (words cmd)
        have tpos : (0 : Int) < (runR base needs targets own (words cmd)).1 := by omega
        have HJ := Lib.hid hj
        clear h0 hj hnn
        go_wp2_with fail
        refine (refRun_any _ base needs targets own cmd wr HV.out HPK.out hcz).mono ?_
        rintro e w3 ⟨rfl, hov3, hg3⟩
        have hb3 : Below w.heap.size w w3 := HB.out.grown hg3 HB.out.size (fun k' hk' => by injection hk' with hk'; omega)
        go_wp2
        go_ret2
        exact ⟨none, 0, 0, by rw [HJ.out]; rfl, by rw [HJ.out]; exact RdF.nil _ _, hb3⟩
    · obtain rfl : k = nc := by omega
      have hj := HRK.out
      rw [allR_end (by rw [HLC.out]; exact Nat.le_refl _)] at hj
      have HJ0 := Lib.hid hj
      clear hj
      obtain ⟨Ab, An', At', Ao, nb, cb, nn', cn', nt', ct', no, co, f0, f1, f2, f3, f4⟩ := HV.out
      have x1 : wr.cell? ⟨w.heap.size + 1, 1, none⟩ = some (.slice Ao no co) := f0.cell 1
      have hno : own.length = no := f4.1
      have F4 := Lib.hid f4
      clear f0 f1 f2 f3 f4
      have hj := HJ0.out
      by_cases hlt2 : own.length < targets.length
      · rw [if_pos hlt2] at hj
        have HJ := Lib.hid hj
        have t1 : (no : Int) < (nt : Int) := by have := HLT.out; omega
        clear hj hlt2 HJ0 hno
        go_wp2
        go_region
        go_wp2
        go_ret2
        exact ⟨none, 0, 0, by rw [HJ.out]; rfl, by rw [HJ.out]; exact RdF.nil _ _, HB.out.drew⟩
      · rw [if_neg hlt2] at hj
        have HJ := Lib.hid hj
        have t1 : decide (no < nt) = false := decide_eq_false (by have := HLT.out; omega)
        have t2 : ¬ no < nt := by have := HLT.out; omega
        clear hj hlt2 HJ0 hno
        go_wp2
        go_region
        go_wp2
        go_ret2
        exact ⟨Ao, no, co, by rw [HJ.out]; rfl, by rw [HJ.out]; exact F4.out, HB.out.drew⟩
end Go.Proofs.YtmadegpbinnnfaaDoor
