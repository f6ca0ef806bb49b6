/-
  WALKS: recipe.Run: put, join and swap.
-/
import Derived.Test.YtmadegpbinnnfaaDoorRunB
import Derived.Test.YtmadegpbinnnfaaDoorJoinT
namespace Go.Proofs.YtmadegpbinnnfaaDoor
open Go.RowKit

set_option maxHeartbeats 1000000 in
set_option maxRecDepth 100000 in
theorem swapFn_any (bx gw n : Nat) (W3 W4 t : ByteArray) (w : World) (h3 : W3.size = 1) (h4 : W4.size = 1) (hn : n = 5) (ht : t.size ≤ 60) (x0 : w.cell? ⟨bx, 0, none⟩ = some (.slice (some ⟨gw, 0, none⟩) n n)) (c3 : w.cell? ⟨gw, 3, none⟩ = some (.string W3)) (c4 : w.cell? ⟨gw, 4, none⟩ = some (.string W4)) :
    Calls Tryd.prog 33 #[.string t, .pointer (some ⟨bx, 0, none⟩)] w fun e w' => e = .returned (.string (swT t (byteAt W3 0) (byteAt W4 0))) ∧ Below w.heap.size w w' := by
  have l3 : 0 < W3.size := by omega
  have l4 : 0 < W4.size := by omega
  have e3 : byteAt W3 0 = W3[0] := byteAt_get W3 0 (by simpa using l3)
  have e4 : byteAt W4 0 = W4[0] := byteAt_get W4 0 (by simpa using l4)
  rw [e3, e4]
  have i3 : (3 : Int) < (n : Int) := by omega
  have i4 : (4 : Int) < (n : Int) := by omega
  have j3 : (0 : Int) < (W3.size : Int) := by omega
  have j4 : (0 : Int) < (W4.size : Int) := by omega
  have hbD : Below w.heap.size w w.drew := (Below.refl _ _).drew
  have HH := Lib.hid (show w.drew.cell? ⟨bx, 0, none⟩ = some (.slice (some ⟨gw, 0, none⟩) n n) ∧ w.drew.cell? ⟨gw, 3, none⟩ = some (.string W3) ∧ w.drew.cell? ⟨gw, 4, none⟩ = some (.string W4) from ⟨x0, c3, c4⟩)
  have lb := Lib.hid (World.block_lt_of_cell? _ _ x0)
  have lg := Lib.hid (World.block_lt_of_cell? _ _ c3)
  clear h3 h4 hn e3 e4
  go_enter Tryd.func33, Tryd.ntmps33
  go_wp2
  go_region_held3 (fun w' => w'.cell? ⟨bx, 0, none⟩ = some (.slice (some ⟨gw, 0, none⟩) n n) ∧ w'.cell? ⟨gw, 3, none⟩ = some (.string W3) ∧ w'.cell? ⟨gw, 4, none⟩ = some (.string W4))
    (first | exact ⟨k0, k1, k2⟩ | exact HH.out | exact ⟨x0, c3, c4⟩)
    (first
      | (go_at_call 34; refine (swapped_any t _ _ _ (by omega)).mono ?_; rintro e w3 ⟨rfl, hb3⟩; have k0 : w3.cell? ⟨bx, 0, none⟩ = some (.slice (some ⟨gw, 0, none⟩) n n) := (hb3.cell (p := ⟨bx, 0, none⟩) lb.out).trans HH.out.1; have k1 : w3.cell? ⟨gw, 3, none⟩ = some (.string W3) := (hb3.cell (p := ⟨gw, 3, none⟩) lg.out).trans HH.out.2.1; have k2 : w3.cell? ⟨gw, 4, none⟩ = some (.string W4) := (hb3.cell (p := ⟨gw, 4, none⟩) lg.out).trans HH.out.2.2; have HB3 := Lib.hid hb3; clear hb3))
  all_goals go_wp2
  all_goals go_ret
  all_goals exact ⟨rfl, hbD.trans HB3.out⟩

theorem rdS_drop2 {w : World} {B gw n : Nat} {ws : List ByteArray} (h : RdS w B (some ⟨gw, 0, none⟩) n n ws) (hn : 3 ≤ n) : RdS w B (some ⟨gw, 2, none⟩) (n - 2) (n - 2) (ws.drop 2) := by
  refine ⟨by rw [List.length_drop, h.1], Nat.le_refl _, by have := h.2.2.1; omega, fun _ => ?_⟩
  obtain ⟨b, off, e, hb, hc⟩ := h.2.2.2 (by omega)
  injection e with e
  injection e with e1 e2
  subst e1; subst e2
  refine ⟨gw, 2, rfl, hb, fun j u hu => ?_⟩
  rw [List.getElem?_drop] at hu
  have := hc (2 + j) u hu
  simpa using this

set_option maxHeartbeats 2000000 in
set_option maxRecDepth 100000 in
theorem run_join (g : Nat) (base : List F) (needs targets : List ByteArray) (own : List F) (cmd : ByteArray) (ws : List ByteArray) (n : Nat) (r : Int × List F) (W1 : ByteArray) (w : World) (h : OvA w g base needs targets own) (hsm : Small base needs targets own) (hm : MaxOk w) (hc : cmd.size ≤ 1000)
    (hws : words cmd = ws) (hn : ws.length = n) (hn9 : n ≤ 1001) (hwd0 : ws[0]? = some (⟨#[106, 111, 105, 110]⟩ : ByteArray)) (hwd1 : ws[1]? = some W1) (hcond : 3 ≤ n) (hr : r = joinR base needs targets own W1 (ws.drop 2)) :
    Calls Tryd.prog 17 #[.pointer (some ⟨g, 0, none⟩), .string cmd] w (RunPost g base needs targets r w) := by
  have hpos : 1 ≤ n := by omega
  have i0 : (0 : Int) < (n : Int) := by omega
  have i1 : (1 : Int) < (n : Int) := by omega
  have i2 : (2 : Int) ≤ (n : Int) := by omega
  have n2 : ¬ n = 2 := by omega
  have t3 : (3 : Int) ≤ (n : Int) := by omega
  have HOV := Lib.hid h
  have HW := Lib.hid hws
  have HN := Lib.hid hn
  have HRR := Lib.hid hr
  clear h hws hn hr
  go_enter Tryd.func17, Tryd.ntmps17
  go_wp2_with fail
  refine (split_any cmd w (by omega) hm).mono ?_
  rintro e w1 ⟨rfl, hr1, hb1⟩
  rw [HW.out, HN.out] at hr1
  rw [HW.out, HN.out]
  have hbx := (Below.refl w1.heap.size w1).alloc (Nat.le_refl _) (.cells #[.slice (some ⟨w.heap.size, 0, none⟩) n n] 32)
  have hb2 : Below w.heap.size w (w1.alloc (.cells #[.slice (some ⟨w.heap.size, 0, none⟩) n n] 32)) := hb1.trans (hbx.mono hb1.size)
  have hr2 := hr1.belowS hbx
  have HR2 := Lib.hid hr2
  have HO2 := Lib.hid (HOV.out.below hb2)
  have x0 : (w1.alloc (.cells #[.slice (some ⟨w.heap.size, 0, none⟩) n n] 32)).cell? ⟨w1.heap.size, 0, none⟩ = some (.slice (some ⟨w.heap.size, 0, none⟩) n n) := by rw [World.cell?_alloc_at _ _ _ _ rfl]; rfl
  have X0 := Lib.hid x0
  have c0 : (w1.alloc (.cells #[.slice (some ⟨w.heap.size, 0, none⟩) n n] 32)).cell? ⟨w.heap.size, 0, none⟩ = some (.string (⟨#[106, 111, 105, 110]⟩ : ByteArray)) := by
    obtain ⟨b, off, e, _, hcell⟩ := hr2.at_ (hwd0)
    injection e with e
    injection e with e1 e2
    subst e1; subst e2
    simpa using hcell
  have c1 : (w1.alloc (.cells #[.slice (some ⟨w.heap.size, 0, none⟩) n n] 32)).cell? ⟨w.heap.size, 1, none⟩ = some (.string W1) := by
    obtain ⟨b, off, e, _, hcell⟩ := hr2.at_ (hwd1)
    injection e with e
    injection e with e1 e2
    subst e1; subst e2
    simpa using hcell
  have HSZ := Lib.hid (show (w1.alloc (.cells #[.slice (some ⟨w.heap.size, 0, none⟩) n n] 32)).heap.size = w1.heap.size + 1 by simp)
  have hw1 := hb1.size
  clear hr1 hbx hr2 x0
  go_wp2
  generalize w1.alloc (.cells #[.slice (some ⟨w.heap.size, 0, none⟩) n n] 32) = w2 at *
  have x0 := X0.out
  have hbD : Below w.heap.size w w2.drew := ⟨hb2.os, hb2.tape, hb2.output, hb2.size, hb2.block⟩
  have HOD := Lib.hid (show OvA w2.drew g base needs targets own from HO2.out)
  have hlb : w1.heap.size < w2.drew.heap.size := by have := HSZ.out; show w1.heap.size < w2.heap.size; omega
  have gl : g < w.heap.size := HOV.out.lt
  have N1 := Lib.hid (show some w1.heap.size ≠ some g by intro e; injection e with e; omega)
  have N2 := Lib.hid (show some w.heap.size ≠ some g by intro e; injection e with e; omega)
  have HH := Lib.hid (show w2.drew.cell? ⟨w1.heap.size, 0, none⟩ = some (.slice (some ⟨w.heap.size, 0, none⟩) n n) ∧ w2.drew.cell? ⟨w.heap.size, 1, none⟩ = some (.string W1) from ⟨x0, c1⟩)
  have hrj : RdS w2.drew w2.drew.heap.size (some ⟨w.heap.size, 2, none⟩) (n - 2) (n - 2) (ws.drop 2) := rdS_drop2 HR2.out hcond
  have HRJ := Lib.hid hrj
  clear hrj
  go_region_held3 (fun w' => w'.cell? ⟨w1.heap.size, 0, none⟩ = some (.slice (some ⟨w.heap.size, 0, none⟩) n n) ∧ w'.cell? ⟨w.heap.size, 1, none⟩ = some (.string W1))
    (first | exact ⟨k0, k1⟩ | exact HH.out | exact ⟨x0, c1⟩)
    (first
      | (go_at_call 35; refine (join_any g base needs targets own W1 _ _ _ (ws.drop 2) _ HOD.out hsm HRJ.out (by omega)).mono ?_; rintro e w3 ⟨rfl, hov, hg⟩; have HV := Lib.hid hov; have HG := Lib.hid hg; have k0 : w3.cell? ⟨w1.heap.size, 0, none⟩ = some (.slice (some ⟨w.heap.size, 0, none⟩) n n) := hg.cell HH.out.1 N1.out; have k1 : w3.cell? ⟨w.heap.size, 1, none⟩ = some (.string W1) := hg.cell HH.out.2 N2.out; clear hov hg))
  go_wp2
  go_ret
  exact ⟨by rw [HRR.out]; rfl, by rw [HRR.out]; exact HV.out, grown_trans (grown_below hbD _) HG.out⟩

theorem rdS_cells {w : World} {B gw o n c : Nat} {ws : List ByteArray} (h : RdS w B (some ⟨gw, o, none⟩) n c ws) : ∀ (j : Nat) x, ws[j]? = some x → w.cell? ⟨gw, o + j, none⟩ = some (.string x) := by
  intro j x hx
  obtain ⟨b, off, e, _, hc⟩ := h.at_ hx
  injection e with e
  injection e with e1 e2
  subst e1; subst e2
  exact hc

set_option maxHeartbeats 2000000 in
set_option maxRecDepth 100000 in
theorem run_put (g : Nat) (base : List F) (needs targets : List ByteArray) (own : List F) (cmd : ByteArray) (ws : List ByteArray) (n : Nat) (r : Int × List F) (W1 : ByteArray) (w : World) (h : OvA w g base needs targets own) (hsm : Small base needs targets own) (hm : MaxOk w) (hc : cmd.size ≤ 1000)
    (hws : words cmd = ws) (hn : ws.length = n) (hn9 : n ≤ 1001) (hwd0 : ws[0]? = some (⟨#[112, 117, 116]⟩ : ByteArray)) (hwd1 : ws[1]? = some W1) (hcond : 3 ≤ n) (hr : r = writeR targets own W1 (joinT (ws.drop 2))) :
    Calls Tryd.prog 17 #[.pointer (some ⟨g, 0, none⟩), .string cmd] w (RunPost g base needs targets r w) := by
  have hpos : 1 ≤ n := by omega
  have i0 : (0 : Int) < (n : Int) := by omega
  have i1 : (1 : Int) < (n : Int) := by omega
  have i2 : (2 : Int) ≤ (n : Int) := by omega
  have n2 : ¬ n = 2 := by omega
  have t3 : (3 : Int) ≤ (n : Int) := by omega
  have HOV := Lib.hid h
  have HW := Lib.hid hws
  have HN := Lib.hid hn
  have HRR := Lib.hid hr
  clear h hws hn hr
  go_enter Tryd.func17, Tryd.ntmps17
  go_wp2_with fail
  refine (split_any cmd w (by omega) hm).mono ?_
  rintro e w1 ⟨rfl, hr1, hb1⟩
  rw [HW.out, HN.out] at hr1
  rw [HW.out, HN.out]
  have hbx := (Below.refl w1.heap.size w1).alloc (Nat.le_refl _) (.cells #[.slice (some ⟨w.heap.size, 0, none⟩) n n] 32)
  have hb2 : Below w.heap.size w (w1.alloc (.cells #[.slice (some ⟨w.heap.size, 0, none⟩) n n] 32)) := hb1.trans (hbx.mono hb1.size)
  have hr2 := hr1.belowS hbx
  have HR2 := Lib.hid hr2
  have HO2 := Lib.hid (HOV.out.below hb2)
  have x0 : (w1.alloc (.cells #[.slice (some ⟨w.heap.size, 0, none⟩) n n] 32)).cell? ⟨w1.heap.size, 0, none⟩ = some (.slice (some ⟨w.heap.size, 0, none⟩) n n) := by rw [World.cell?_alloc_at _ _ _ _ rfl]; rfl
  have X0 := Lib.hid x0
  have c0 : (w1.alloc (.cells #[.slice (some ⟨w.heap.size, 0, none⟩) n n] 32)).cell? ⟨w.heap.size, 0, none⟩ = some (.string (⟨#[112, 117, 116]⟩ : ByteArray)) := by
    obtain ⟨b, off, e, _, hcell⟩ := hr2.at_ (hwd0)
    injection e with e
    injection e with e1 e2
    subst e1; subst e2
    simpa using hcell
  have c1 : (w1.alloc (.cells #[.slice (some ⟨w.heap.size, 0, none⟩) n n] 32)).cell? ⟨w.heap.size, 1, none⟩ = some (.string W1) := by
    obtain ⟨b, off, e, _, hcell⟩ := hr2.at_ (hwd1)
    injection e with e
    injection e with e1 e2
    subst e1; subst e2
    simpa using hcell
  have HSZ := Lib.hid (show (w1.alloc (.cells #[.slice (some ⟨w.heap.size, 0, none⟩) n n] 32)).heap.size = w1.heap.size + 1 by simp)
  have hw1 := hb1.size
  clear hr1 hbx hr2 x0
  go_wp2
  generalize w1.alloc (.cells #[.slice (some ⟨w.heap.size, 0, none⟩) n n] 32) = w2 at *
  have x0 := X0.out
  have hbD : Below w.heap.size w w2.drew := ⟨hb2.os, hb2.tape, hb2.output, hb2.size, hb2.block⟩
  have HOD := Lib.hid (show OvA w2.drew g base needs targets own from HO2.out)
  have hlb : w1.heap.size < w2.drew.heap.size := by have := HSZ.out; show w1.heap.size < w2.heap.size; omega
  have gl : g < w.heap.size := HOV.out.lt
  have N1 := Lib.hid (show some w1.heap.size ≠ some g by intro e; injection e with e; omega)
  have N2 := Lib.hid (show some w.heap.size ≠ some g by intro e; injection e with e; omega)
  have HH := Lib.hid (show w2.drew.cell? ⟨w1.heap.size, 0, none⟩ = some (.slice (some ⟨w.heap.size, 0, none⟩) n n) ∧ w2.drew.cell? ⟨w.heap.size, 1, none⟩ = some (.string W1) from ⟨x0, c1⟩)
  have hrj : RdS w2.drew w2.drew.heap.size (some ⟨w.heap.size, 2, none⟩) (n - 2) (n - 2) (ws.drop 2) := rdS_drop2 HR2.out hcond
  have HRJ := Lib.hid hrj
  have hjl := joinT_size cmd 2
  rw [HW.out] at hjl
  have HJL := Lib.hid hjl
  have lw : w.heap.size < w2.drew.heap.size := by omega
  clear hrj hjl
  go_region_held3 (fun w' => w'.cell? ⟨w1.heap.size, 0, none⟩ = some (.slice (some ⟨w.heap.size, 0, none⟩) n n) ∧ w'.cell? ⟨w.heap.size, 1, none⟩ = some (.string W1))
    (first | exact ⟨k0, k1⟩ | exact ⟨m0, m1⟩ | exact HH.out | exact ⟨x0, c1⟩)
    (first
      | (go_at_call 29; refine (joinCall_any w.heap.size 2 (n - 2) (n - 2) (ws.drop 2) _ HRJ.out.1 (rdS_cells HRJ.out) lw (by omega) (Nat.le_refl _) (by have := HJL.out; omega)).mono ?_; rintro e w4 ⟨rfl, hb4⟩; have m0 : w4.cell? ⟨w1.heap.size, 0, none⟩ = some (.slice (some ⟨w.heap.size, 0, none⟩) n n) := (hb4.cell (p := ⟨w1.heap.size, 0, none⟩) hlb).trans HH.out.1; have m1 : w4.cell? ⟨w.heap.size, 1, none⟩ = some (.string W1) := (hb4.cell (p := ⟨w.heap.size, 1, none⟩) lw).trans HH.out.2; have HO4 := Lib.hid (HOD.out.below hb4); have HB4 := Lib.hid hb4; clear hb4)
      | (go_at_call 28; refine (write_any g base needs targets own W1 _ _ HO4.out hsm.ro (by have := hsm.lo; omega) (by have := hsm.lt; omega)).mono ?_; rintro e w3 ⟨rfl, hov, hg⟩; have HV := Lib.hid hov; have HG := Lib.hid hg; have k0 : w3.cell? ⟨w1.heap.size, 0, none⟩ = some (.slice (some ⟨w.heap.size, 0, none⟩) n n) := hg.cell m0 N1.out; have k1 : w3.cell? ⟨w.heap.size, 1, none⟩ = some (.string W1) := hg.cell m1 N2.out; clear hov hg))
  go_wp2
  go_ret
  exact ⟨by rw [HRR.out]; rfl, by rw [HRR.out]; exact HV.out, grown_trans (grown_trans (grown_below hbD _) (grown_below HB4.out _)) HG.out⟩

set_option maxHeartbeats 2000000 in
set_option maxRecDepth 100000 in
theorem run_swap (g : Nat) (base : List F) (needs targets : List ByteArray) (own : List F) (cmd : ByteArray) (ws : List ByteArray) (n : Nat) (r : Int × List F) (W1 W2 W3 W4 : ByteArray) (w : World) (h : OvA w g base needs targets own) (hsm : Small base needs targets own) (hm : MaxOk w) (hc : cmd.size ≤ 1000)
    (hws : words cmd = ws) (hn : ws.length = n) (hn9 : n ≤ 1001) (hwd0 : ws[0]? = some (⟨#[115, 119, 97, 112]⟩ : ByteArray)) (hwd1 : ws[1]? = some W1) (hwd2 : ws[2]? = some W2) (hwd3 : ws[3]? = some W3) (hwd4 : ws[4]? = some W4) (hcond : n = 5) (hs3 : W3.size = 1) (hs4 : W4.size = 1) (hr : r = passR base needs targets own (fun s => swT s (byteAt W3 0) (byteAt W4 0)) W1 W2) :
    Calls Tryd.prog 17 #[.pointer (some ⟨g, 0, none⟩), .string cmd] w (RunPost g base needs targets r w) := by
  have hpos : 1 ≤ n := by omega
  have i0 : (0 : Int) < (n : Int) := by omega
  have i1 : (1 : Int) < (n : Int) := by omega
  have i2 : (2 : Int) < (n : Int) := by omega
  have i3 : (3 : Int) < (n : Int) := by omega
  have i4 : (4 : Int) < (n : Int) := by omega
  have q5 : ((n : Int) == 5) = true := by rw [beq_iff_eq]; omega
  have z3 : ((W3.size : Int) == 1) = true := by rw [beq_iff_eq]; omega
  have z4 : ((W4.size : Int) == 1) = true := by rw [beq_iff_eq]; omega
  have hmf : ∀ (fn : Fn) (first cap : Array Value) (w : World), (Instr.makeFunc fn first cap).run Tryd.prog w = .ok (.func fn first cap) w := fun _ _ _ _ => rfl
  have HC1 := Lib.hid hcond
  have HS3 := Lib.hid hs3
  have HS4 := Lib.hid hs4
  clear hcond hs3 hs4
  have HOV := Lib.hid h
  have HW := Lib.hid hws
  have HN := Lib.hid hn
  have HRR := Lib.hid hr
  clear h hws hn hr
  go_enter Tryd.func17, Tryd.ntmps17
  go_wp2_with fail
  refine (split_any cmd w (by omega) hm).mono ?_
  rintro e w1 ⟨rfl, hr1, hb1⟩
  rw [HW.out, HN.out] at hr1
  rw [HW.out, HN.out]
  have hbx := (Below.refl w1.heap.size w1).alloc (Nat.le_refl _) (.cells #[.slice (some ⟨w.heap.size, 0, none⟩) n n] 32)
  have hb2 : Below w.heap.size w (w1.alloc (.cells #[.slice (some ⟨w.heap.size, 0, none⟩) n n] 32)) := hb1.trans (hbx.mono hb1.size)
  have hr2 := hr1.belowS hbx
  have HR2 := Lib.hid hr2
  have HO2 := Lib.hid (HOV.out.below hb2)
  have x0 : (w1.alloc (.cells #[.slice (some ⟨w.heap.size, 0, none⟩) n n] 32)).cell? ⟨w1.heap.size, 0, none⟩ = some (.slice (some ⟨w.heap.size, 0, none⟩) n n) := by rw [World.cell?_alloc_at _ _ _ _ rfl]; rfl
  have X0 := Lib.hid x0
  have c0 : (w1.alloc (.cells #[.slice (some ⟨w.heap.size, 0, none⟩) n n] 32)).cell? ⟨w.heap.size, 0, none⟩ = some (.string (⟨#[115, 119, 97, 112]⟩ : ByteArray)) := by
    obtain ⟨b, off, e, _, hcell⟩ := hr2.at_ (hwd0)
    injection e with e
    injection e with e1 e2
    subst e1; subst e2
    simpa using hcell
  have c1 : (w1.alloc (.cells #[.slice (some ⟨w.heap.size, 0, none⟩) n n] 32)).cell? ⟨w.heap.size, 1, none⟩ = some (.string W1) := by
    obtain ⟨b, off, e, _, hcell⟩ := hr2.at_ (hwd1)
    injection e with e
    injection e with e1 e2
    subst e1; subst e2
    simpa using hcell
  have c2 : (w1.alloc (.cells #[.slice (some ⟨w.heap.size, 0, none⟩) n n] 32)).cell? ⟨w.heap.size, 2, none⟩ = some (.string W2) := by
    obtain ⟨b, off, e, _, hcell⟩ := hr2.at_ (hwd2)
    injection e with e
    injection e with e1 e2
    subst e1; subst e2
    simpa using hcell
  have c3 : (w1.alloc (.cells #[.slice (some ⟨w.heap.size, 0, none⟩) n n] 32)).cell? ⟨w.heap.size, 3, none⟩ = some (.string W3) := by
    obtain ⟨b, off, e, _, hcell⟩ := hr2.at_ (hwd3)
    injection e with e
    injection e with e1 e2
    subst e1; subst e2
    simpa using hcell
  have c4 : (w1.alloc (.cells #[.slice (some ⟨w.heap.size, 0, none⟩) n n] 32)).cell? ⟨w.heap.size, 4, none⟩ = some (.string W4) := by
    obtain ⟨b, off, e, _, hcell⟩ := hr2.at_ (hwd4)
    injection e with e
    injection e with e1 e2
    subst e1; subst e2
    simpa using hcell
  have HSZ := Lib.hid (show (w1.alloc (.cells #[.slice (some ⟨w.heap.size, 0, none⟩) n n] 32)).heap.size = w1.heap.size + 1 by simp)
  have hw1 := hb1.size
  clear hr1 hbx hr2 x0
  go_wp2
  generalize w1.alloc (.cells #[.slice (some ⟨w.heap.size, 0, none⟩) n n] 32) = w2 at *
  have x0 := X0.out
  have hbD : Below w.heap.size w w2.drew := ⟨hb2.os, hb2.tape, hb2.output, hb2.size, hb2.block⟩
  have HOD := Lib.hid (show OvA w2.drew g base needs targets own from HO2.out)
  have hlb : w1.heap.size < w2.drew.heap.size := by have := HSZ.out; show w1.heap.size < w2.heap.size; omega
  have gl : g < w.heap.size := HOV.out.lt
  have N1 := Lib.hid (show some w1.heap.size ≠ some g by intro e; injection e with e; omega)
  have N2 := Lib.hid (show some w.heap.size ≠ some g by intro e; injection e with e; omega)
  have HH := Lib.hid (show w2.drew.cell? ⟨w1.heap.size, 0, none⟩ = some (.slice (some ⟨w.heap.size, 0, none⟩) n n) ∧ w2.drew.cell? ⟨w.heap.size, 1, none⟩ = some (.string W1) ∧ w2.drew.cell? ⟨w.heap.size, 2, none⟩ = some (.string W2) from ⟨x0, c1, c2⟩)
  have D3 := Lib.hid (show w2.drew.cell? ⟨w.heap.size, 3, none⟩ = some (.string W3) from c3)
  have D4 := Lib.hid (show w2.drew.cell? ⟨w.heap.size, 4, none⟩ = some (.string W4) from c4)
  have lw : w.heap.size < w2.drew.heap.size := by omega
  have hfn : ∀ (t : ByteArray) (W : World), t.size ≤ 60 → Below w2.drew.heap.size w2.drew W → Calls Tryd.prog 33 #[.string t, .pointer (some ⟨w1.heap.size, 0, none⟩)] W fun e w' => e = .returned (.string ((fun s => swT s (byteAt W3 0) (byteAt W4 0)) t)) ∧ Below W.heap.size W w' := fun t W ht hbW =>
    swapFn_any w1.heap.size w.heap.size n W3 W4 t W HS3.out HS4.out HC1.out ht ((hbW.cell (p := ⟨w1.heap.size, 0, none⟩) hlb).trans HH.out.1) ((hbW.cell (p := ⟨w.heap.size, 3, none⟩) lw).trans D3.out) ((hbW.cell (p := ⟨w.heap.size, 4, none⟩) lw).trans D4.out)
  have HFN := Lib.hid hfn
  clear hfn
  go_region_held3 (fun w' => w'.cell? ⟨w1.heap.size, 0, none⟩ = some (.slice (some ⟨w.heap.size, 0, none⟩) n n) ∧ w'.cell? ⟨w.heap.size, 1, none⟩ = some (.string W1) ∧ w'.cell? ⟨w.heap.size, 2, none⟩ = some (.string W2))
    (first | exact ⟨k0, k1, k2⟩ | exact HH.out | exact ⟨x0, c1, c2⟩)
    (first
      | (go_at_call 30; refine (pass_swap g base needs targets own (fun s => swT s (byteAt W3 0) (byteAt W4 0)) W1 W2 _ _ HOD.out hsm HFN.out).mono ?_; rintro e w3 ⟨rfl, hov, hg⟩; have HV := Lib.hid hov; have HG := Lib.hid hg; have k0 : w3.cell? ⟨w1.heap.size, 0, none⟩ = some (.slice (some ⟨w.heap.size, 0, none⟩) n n) := hg.cell HH.out.1 N1.out; have k1 : w3.cell? ⟨w.heap.size, 1, none⟩ = some (.string W1) := hg.cell HH.out.2.1 N2.out; have k2 : w3.cell? ⟨w.heap.size, 2, none⟩ = some (.string W2) := hg.cell HH.out.2.2 N2.out; clear hov hg))
  go_wp2
  go_ret
  exact ⟨by rw [HRR.out]; rfl, by rw [HRR.out]; exact HV.out, grown_trans (grown_below hbD _) HG.out⟩
end Go.Proofs.YtmadegpbinnnfaaDoor
