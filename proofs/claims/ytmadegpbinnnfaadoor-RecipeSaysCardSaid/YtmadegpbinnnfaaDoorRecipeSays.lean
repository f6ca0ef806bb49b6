/-
  THE WALK OF hammerpondlaw.RecipeSays: for every slice that reads as files, every group of texts and every command, the call returns true, and nothing that was there has turned.
-/
import Derived.Test.YtmadegpbinnnfaaDoorRecipe
import Derived.Test.YtmadegpbinnnfaaDoorRefAll
import Derived.Deep.RegionHeld3
namespace Go.Proofs.YtmadegpbinnnfaaDoor
open Go.RowKit

theorem small_lit {base : List F} {needs targets : List ByteArray} (h : Lit base) (hn : needs.length ≤ 5) (ht : targets.length ≤ 4) : Small base needs targets [] :=
  ⟨h.2.1, List.Pairwise.nil, by have := h.1; omega, by simp, by omega, by omega, fun f hf => (h.2.2 f hf).2, by simp⟩

set_option maxHeartbeats 4000000 in
set_option maxRecDepth 100000 in
theorem recipeSays_any (ph : Bool) (A An At Ac : Option Addr) (n c nn cn nt ct nc cc : Nat) (base : List F) (needs targets cmds : List ByteArray) (cmd : ByteArray) (w : World)
    (h : RdF w w.heap.size A n c base) (h1 : RdS w w.heap.size An nn cn needs) (h2 : RdS w w.heap.size At nt ct targets) (h3 : RdS w w.heap.size Ac nc cc cmds) (hm : MaxOk w) :
    Calls Tryd.prog 4 #[.slice A n c, .agg #[.slice At nt ct, .slice An nn cn, .slice Ac nc cc, .bool ph], .string cmd] w fun e w' => e = .returned (.bool true) ∧ Below w.heap.size w w' := by
  have hb0 : Below w.heap.size w (w.alloc (.cells #[.slice At nt ct, .slice An nn cn, .slice Ac nc cc, .bool ph] 34)) := (Below.refl _ _).alloc (Nat.le_refl _) _
  have z : ∀ (k : Nat) v, #[.slice At nt ct, .slice An nn cn, .slice Ac nc cc, .bool ph][k]? = some v → (w.alloc (.cells #[.slice At nt ct, .slice An nn cn, .slice Ac nc cc, .bool ph] 34)).cell? ⟨w.heap.size, k, none⟩ = some v := by
    intro k v hv
    rw [World.cell?_alloc_at _ _ _ _ rfl]; exact hv
  have Z0 := Lib.hid (z 0 _ rfl)
  have Z1 := Lib.hid (z 1 _ rfl)
  have Z2 := Lib.hid (z 2 _ rfl)
  have Z3 := Lib.hid (z 3 _ rfl)
  have H := Lib.hid (h.belowS hb0)
  have H1 := Lib.hid (h1.belowS hb0)
  have H2 := Lib.hid (h2.belowS hb0)
  have H3 := Lib.hid (h3.belowS hb0)
  have HM := Lib.hid (hm.below hb0)
  have L0 := Lib.hid h.1
  have L1 := Lib.hid h1.1
  have L2 := Lib.hid h2.1
  have L3 := Lib.hid h3.1
  have hlw : w.heap.size < (w.alloc (.cells #[.slice At nt ct, .slice An nn cn, .slice Ac nc cc, .bool ph] 34)).heap.size := by simp
  clear h h1 h2 h3 hm z
  go_enter Tryd.func4, Tryd.ntmps4
  go_wp2_with fail
  generalize w.alloc (.cells #[.slice At nt ct, .slice An nn cn, .slice Ac nc cc, .bool ph] 34) = w0 at *
  refine (recipes_any w0 HM.out).mono ?_
  rintro e w1 ⟨rfl, hb1⟩
  have hbw1 : Below w.heap.size w w1 := hb0.trans (hb1.mono hb0.size)
  go_wp2_with fail
  refine (light_any A n c base w1 (H.out.belowS hb1)).mono ?_
  rintro e w3 ⟨b, rfl, hlit, q, rfl⟩
  have hb3 : Below w0.heap.size w0 (w1.drewN q) := ⟨hb1.os, hb1.tape, hb1.output, hb1.size, hb1.block⟩
  clear hb1 hbw1
  generalize w1.drewN q = w3 at *
  have hbw3 : Below w.heap.size w w3 := hb0.trans (hb3.mono hb0.size)
  cases b with
  | false =>
    clear hlit
    go_wp2
    go_ret
    exact ⟨rfl, hbw3⟩
  | true =>
    have hlt := hlit rfl
    clear hlit
    have HLT := Lib.hid hlt
    clear hlt
    have y0 : w3.cell? ⟨w.heap.size, 0, none⟩ = some (.slice At nt ct) := (hb3.cell (p := ⟨w.heap.size, 0, none⟩) hlw).trans Z0.out
    have y1 : w3.cell? ⟨w.heap.size, 1, none⟩ = some (.slice An nn cn) := (hb3.cell (p := ⟨w.heap.size, 1, none⟩) hlw).trans Z1.out
    have y2 : w3.cell? ⟨w.heap.size, 2, none⟩ = some (.slice Ac nc cc) := (hb3.cell (p := ⟨w.heap.size, 2, none⟩) hlw).trans Z2.out
    have y3 : w3.cell? ⟨w.heap.size, 3, none⟩ = some (.bool ph) := (hb3.cell (p := ⟨w.heap.size, 3, none⟩) hlw).trans Z3.out
    go_wp2_with fail
    refine (lightGroup_any ph An At Ac nn cn nt ct nc cc needs targets cmds w3 (H1.out.belowS hb3) (H2.out.belowS hb3) (H3.out.belowS hb3)).mono ?_
    rintro e w4 ⟨b, rfl, hlg, hb4'⟩
    have hb4 : Below w0.heap.size w0 w4 := hb3.trans (hb4'.mono hb3.size)
    have hbw4 : Below w.heap.size w w4 := hb0.trans (hb4.mono hb0.size)
    clear hb4' hbw3 hb3 y0 y1 y2 y3
    cases b with
    | false =>
      clear hlg
      go_wp2
      go_ret
      exact ⟨rfl, hbw4⟩
    | true =>
      obtain ⟨ht4, hn5, hc5⟩ := hlg rfl
      clear hlg
      have hsm : Small base needs targets [] := small_lit HLT.out hn5.1 ht4.1
      have hcs : ∀ x ∈ cmds, x.size ≤ 1000 := fun x hx => by have := hc5.2 x hx; omega
      have hnc : nc ≤ 5 := by rw [← L3.out]; exact hc5.1
      have hnn : nn ≤ 5 := by rw [← L1.out]; exact hn5.1
      have hnt : nt ≤ 4 := by rw [← L2.out]; exact ht4.1
      have hn : n ≤ 24 := by rw [← L0.out]; exact HLT.out.1
      have HCS := Lib.hid hcs
      have HSM := Lib.hid hsm
      clear hcs ht4 hn5 hc5 hsm HLT
      by_cases h100 : cmd.size ≤ 100
      · have t1 : decide ((100 : Int) < (cmd.size : Int)) = false := decide_eq_false (by omega)
        have y0 : w4.cell? ⟨w.heap.size, 0, none⟩ = some (.slice At nt ct) := (hb4.cell (p := ⟨w.heap.size, 0, none⟩) hlw).trans Z0.out
        have y1 : w4.cell? ⟨w.heap.size, 1, none⟩ = some (.slice An nn cn) := (hb4.cell (p := ⟨w.heap.size, 1, none⟩) hlw).trans Z1.out
        have y2 : w4.cell? ⟨w.heap.size, 2, none⟩ = some (.slice Ac nc cc) := (hb4.cell (p := ⟨w.heap.size, 2, none⟩) hlw).trans Z2.out
        have y3 : w4.cell? ⟨w.heap.size, 3, none⟩ = some (.bool ph) := (hb4.cell (p := ⟨w.heap.size, 3, none⟩) hlw).trans Z3.out
        generalize hra : allR base needs targets cmds [] = r
        have hrn : 0 ≤ r.1 := by rw [← hra]; exact allR_nn _ _
        have HRA := Lib.hid hra.symm
        clear hra
        go_wp2_with fail
        refine (all_small ph A An At Ac n c nn cn nt ct nc cc base needs targets cmds r w4 (H.out.belowS hb4) (H1.out.belowS hb4) (H2.out.belowS hb4) (H3.out.belowS hb4) HSM.out (by omega) HCS.out (HM.out.below hb4) HRA.out).mono ?_
        rintro e w5 ⟨A5, n5, c5, rfl, hr5, hb5'⟩
        have hb5 : Below w0.heap.size w0 w5 := hb4.trans (hb5'.mono hb4.size)
        have HR5 := Lib.hid hr5
        clear hr5 hb5' hb4 y0 y1 y2 y3
        have y0 : w5.cell? ⟨w.heap.size, 0, none⟩ = some (.slice At nt ct) := (hb5.cell (p := ⟨w.heap.size, 0, none⟩) hlw).trans Z0.out
        have y1 : w5.cell? ⟨w.heap.size, 1, none⟩ = some (.slice An nn cn) := (hb5.cell (p := ⟨w.heap.size, 1, none⟩) hlw).trans Z1.out
        have y2 : w5.cell? ⟨w.heap.size, 2, none⟩ = some (.slice Ac nc cc) := (hb5.cell (p := ⟨w.heap.size, 2, none⟩) hlw).trans Z2.out
        have y3 : w5.cell? ⟨w.heap.size, 3, none⟩ = some (.bool ph) := (hb5.cell (p := ⟨w.heap.size, 3, none⟩) hlw).trans Z3.out
        go_wp2_with fail
        refine (refAll_any ph A An At Ac n c nn cn nt ct nc cc base needs targets cmds r w5 (H.out.belowS hb5) (H1.out.belowS hb5) (H2.out.belowS hb5) (H3.out.belowS hb5) HSM.out (by omega) HCS.out HRA.out).mono ?_
        rintro e w6 ⟨A6, n6, c6, rfl, hr6, hb6'⟩
        have hb6 : Below w0.heap.size w0 w6 := hb5.trans (hb6'.mono hb5.size)
        have HR5' := Lib.hid (HR5.out.belowS hb6')
        obtain rfl : n5 = r.2.length := HR5.out.1.symm
        obtain rfl : n6 = r.2.length := hr6.1.symm
        have HR6 := Lib.hid hr6
        clear hr6 hb6' hb5 HR5 y0 y1 y2 y3
        go_wp2_with fail
        refine (same_errV _ hrn _).mono ?_
        rintro e w7 ⟨rfl, rfl⟩
        go_wp2_with fail
        refine (same_any A5 A6 _ c5 c6 r.2 _ HR5'.out HR6.out).mono ?_
        rintro e w7 ⟨rfl, q7, rfl⟩
        have hb7 : Below w0.heap.size w0 (w6.drewN q7) := ⟨hb6.os, hb6.tape, hb6.output, hb6.size, hb6.block⟩
        generalize w6.drewN q7 = w7 at *
        clear hb6 HR5' HR6
        have y0 : w7.cell? ⟨w.heap.size, 0, none⟩ = some (.slice At nt ct) := (hb7.cell (p := ⟨w.heap.size, 0, none⟩) hlw).trans Z0.out
        have y1 : w7.cell? ⟨w.heap.size, 1, none⟩ = some (.slice An nn cn) := (hb7.cell (p := ⟨w.heap.size, 1, none⟩) hlw).trans Z1.out
        go_wp2_with fail
        refine (new_any A An At n c nn cn nt ct base needs targets w7 (H.out.belowS hb7) (H1.out.belowS hb7) (H2.out.belowS hb7) (by omega) (by omega) (by omega)).mono ?_
        rintro e w8 ⟨g1, rfl, hg1, hov, hb8'⟩
        have hb8 : Below w0.heap.size w0 w8 := hb7.trans (hb8'.mono hb7.size)
        have g1l := hov.lt
        have hba := (Below.refl w8.heap.size w8).alloc (Nat.le_refl _) (.cells #[.slice A n c, .slice none 0 0, .slice An nn cn, .slice At nt ct] 46)
        have hbw9 : Below w.heap.size w (w8.alloc (.cells #[.slice A n c, .slice none 0 0, .slice An nn cn, .slice At nt ct] 46)) := (hb0.trans (hb8.mono hb0.size)).trans (hba.mono (Nat.le_trans hb0.size hb8.size))
        have hovb : OvB (w8.alloc (.cells #[.slice A n c, .slice none 0 0, .slice An nn cn, .slice At nt ct] 46)) w8.heap.size base needs targets [] :=
          ⟨A, An, At, none, n, c, nn, cn, nt, ct, 0, 0, heap_alloc_new w8 _, (H.out.belowS hb8).belowS hba, (H1.out.belowS hb8).belowS hba, (H2.out.belowS hb8).belowS hba, RdF.nil _ _⟩
        have hova := hov.below hba
        have hmo : MaxOk (w8.alloc (.cells #[.slice A n c, .slice none 0 0, .slice An nn cn, .slice At nt ct] 46)) := (HM.out.below hb8).below hba
        have hg1w : w.heap.size ≤ g1 := Nat.le_trans (Nat.le_trans hb0.size hb7.size) hg1
        have hg2w : w.heap.size ≤ w8.heap.size := Nat.le_trans hb0.size hb8.size
        have hne : g1 ≠ w8.heap.size := by omega
        have x0 : w8.cell? ⟨w.heap.size, 0, none⟩ = some (.slice At nt ct) := (hb8.cell (p := ⟨w.heap.size, 0, none⟩) hlw).trans Z0.out
        have x1 : w8.cell? ⟨w.heap.size, 1, none⟩ = some (.slice An nn cn) := (hb8.cell (p := ⟨w.heap.size, 1, none⟩) hlw).trans Z1.out
        have HOA := Lib.hid hova
        have HOB := Lib.hid hovb
        have HMO := Lib.hid hmo
        have HB9 := Lib.hid hbw9
        clear hova hovb hmo hbw9 hba hov hb8 hb8' hb7 y0 y1 hg1 HM H H1 H2 H3 Z0 Z1 Z2 Z3
        go_wp2
        generalize w8.alloc (.cells #[.slice A n c, .slice none 0 0, .slice An nn cn, .slice At nt ct] 46) = w9 at *
        generalize w8.heap.size = g2 at *
        generalize hrr : runR base needs targets [] (words cmd) = rr
        have hrn2 : 0 ≤ rr.1 := by rw [← hrr]; exact runR_nn _
        have hrl : rr.2.length ≤ 1 := by have := (runR_grows (base := base) (needs := needs) (targets := targets) List.Pairwise.nil (words cmd)).2.1; rw [hrr] at this; simpa using this
        have HRRR := Lib.hid hrr
        clear hrr
        have hsm0 := HSM.out
        have c1000 : cmd.size ≤ 1000 := by omega
        have HOAd := Lib.hid (show OvA w9.drew g1 base needs targets [] from HOA.out)
        have HOBd := Lib.hid (show OvB w9.drew g2 base needs targets [] from HOB.out)
        have HMd := Lib.hid (show MaxOk w9.drew from HMO.out)
        have HBd := Lib.hid (HB9.out.drew)
        clear hsm0 HOA HOB HMO
        go_region_with
          (first
            | (go_at_call 17; refine (run_any g1 base needs targets [] cmd _ HOAd.out HSM.out HMd.out c1000).mono ?_; rintro e w10 ⟨rfl, hov10, hg10⟩; rw [HRRR.out] at hov10; rw [HRRR.out]; have O10 := Lib.hid hov10; have G10 := Lib.hid hg10; have B10 := Lib.hid (HOBd.out.grown hg10 (Ne.symm hne) HOAd.out.noStr); clear hov10 hg10)
            | (go_at_call 18; refine (refRun_any g2 base needs targets [] cmd _ B10.out HSM.out c1000).mono ?_; rintro e w11 ⟨rfl, hov11, hg11⟩; rw [HRRR.out] at hov11; rw [HRRR.out]; have A11 := Lib.hid (O10.out.grown hg11 hne B10.out.noStr); obtain ⟨Bb, Bn, Bt, Bo, mb, db, mn, dn, mt, dt, mo, do_, f0, f1, f2, f3, f4⟩ := hov11; obtain rfl : mo = rr.2.length := f4.1.symm; have z1 : w11.cell? ⟨g2, 1, none⟩ = some (.slice Bo rr.2.length do_) := f0.cell 1; have g2l := f0.lt; have F4 := Lib.hid f4; have G11 := Lib.hid hg11; clear f0 f1 f2 f3 f4 hg11)
            | (go_at_call 7; refine (same_errV _ hrn2 _).mono ?_; rintro e w' ⟨rfl, rfl⟩)
            | (go_at_call 19; refine (own_any g1 base needs targets rr.2 _ A11.out (by omega)).mono ?_; rintro e w12 ⟨v12, rfl, hown12, hb12⟩; obtain ⟨A12, k12, rfl, hr12⟩ := RdF.of_own hown12; have z2 : w12.cell? ⟨g2, 1, none⟩ = some (.slice Bo rr.2.length do_) := (hb12.cell (p := ⟨g2, 1, none⟩) g2l).trans z1; have R12 := Lib.hid hr12; have F12 := Lib.hid (F4.out.belowS hb12); have H12 := Lib.hid hb12; clear hr12 hown12 hb12)
            | (go_at_call 15; refine (same_any A12 Bo _ k12 do_ rr.2 _ R12.out F12.out).mono ?_; rintro e w13 ⟨rfl, q13, rfl⟩))
        all_goals go_wp2
        all_goals go_ret
        all_goals (
          have hz : Below w.heap.size w w12 := ((HBd.out.grown G10.out HBd.out.size (fun k hk => by injection hk with hk; omega)).grown G11.out (Nat.le_trans HBd.out.size G10.out.size) (fun k hk => by injection hk with hk; omega)).trans (H12.out.mono (Nat.le_trans (Nat.le_trans HBd.out.size G10.out.size) G11.out.size))
          exact ⟨rfl, ⟨hz.os, hz.tape, hz.output, hz.size, hz.block⟩⟩)
      · have t1 : (100 : Int) < (cmd.size : Int) := by omega
        go_wp2
        go_ret
        exact ⟨rfl, hbw4⟩
end Go.Proofs.YtmadegpbinnnfaaDoor
