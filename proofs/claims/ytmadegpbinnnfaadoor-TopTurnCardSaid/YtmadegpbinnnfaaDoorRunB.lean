/-
  WALKS: recipe.Run: its commands that write: put, copy, turn, swap, join.
-/
import Derived.Test.YtmadegpbinnnfaaDoorRunA
namespace Go.Proofs.YtmadegpbinnnfaaDoor
open Go.RowKit


set_option maxHeartbeats 2000000 in
set_option maxRecDepth 100000 in
theorem run_copy (g : Nat) (base : List F) (needs targets : List ByteArray) (own : List F) (cmd : ByteArray) (ws : List ByteArray) (n : Nat) (r : Int × List F) (W1 W2 : ByteArray) (w : World) (h : OvA w g base needs targets own) (hsm : Small base needs targets own) (hm : MaxOk w) (hc : cmd.size ≤ 1000)
    (hws : words cmd = ws) (hn : ws.length = n) (hn9 : n ≤ 1001) (hwd0 : ws[0]? = some (⟨#[99, 111, 112, 121]⟩ : ByteArray)) (hwd1 : ws[1]? = some W1) (hwd2 : ws[2]? = some W2) (hcond : n = 3) (hr : r = passR base needs targets own id W1 W2) :
    Calls Tryd.prog 17 #[.pointer (some ⟨g, 0, none⟩), .string cmd] w (RunPost g base needs targets r w) := by
  have hpos : 1 ≤ n := by omega
  have i0 : (0 : Int) < (n : Int) := by omega
  have i1 : (1 : Int) < (n : Int) := by omega
  have i2 : (2 : Int) < (n : Int) := by omega
  have q3 : ((n : Int) == 3) = true := by rw [beq_iff_eq]; omega
  have HC1 := Lib.hid hcond
  clear hcond
  have HOV := Lib.hid h
  have HW := Lib.hid hws
  have HN := Lib.hid hn
  have HRR := Lib.hid hr
  clear h hws hn hr
  go_enter Tryd.func17, Tryd.ntmps17
  go_wp2_with fail
  refine (split_any cmd w (by omega) hm).mono ?_
  rintro e w1 ⟨rfl, hr1, hb1⟩
  rw [HW.out, HN.out] at hr1
  rw [HW.out, HN.out]
  have hbx := (Below.refl w1.heap.size w1).alloc (Nat.le_refl _) (.cells #[.slice (some ⟨w.heap.size, 0, none⟩) n n] 32)
  have hb2 : Below w.heap.size w (w1.alloc (.cells #[.slice (some ⟨w.heap.size, 0, none⟩) n n] 32)) := hb1.trans (hbx.mono hb1.size)
  have hr2 := hr1.belowS hbx
  have HR2 := Lib.hid hr2
  have HO2 := Lib.hid (HOV.out.below hb2)
  have x0 : (w1.alloc (.cells #[.slice (some ⟨w.heap.size, 0, none⟩) n n] 32)).cell? ⟨w1.heap.size, 0, none⟩ = some (.slice (some ⟨w.heap.size, 0, none⟩) n n) := by rw [World.cell?_alloc_at _ _ _ _ rfl]; rfl
  have X0 := Lib.hid x0
  have c0 : (w1.alloc (.cells #[.slice (some ⟨w.heap.size, 0, none⟩) n n] 32)).cell? ⟨w.heap.size, 0, none⟩ = some (.string (⟨#[99, 111, 112, 121]⟩ : ByteArray)) := by
    obtain ⟨b, off, e, _, hcell⟩ := hr2.at_ (hwd0)
    injection e with e
    injection e with e1 e2
    subst e1; subst e2
    simpa using hcell
  have c1 : (w1.alloc (.cells #[.slice (some ⟨w.heap.size, 0, none⟩) n n] 32)).cell? ⟨w.heap.size, 1, none⟩ = some (.string W1) := by
    obtain ⟨b, off, e, _, hcell⟩ := hr2.at_ (hwd1)
    injection e with e
    injection e with e1 e2
    subst e1; subst e2
    simpa using hcell
  have c2 : (w1.alloc (.cells #[.slice (some ⟨w.heap.size, 0, none⟩) n n] 32)).cell? ⟨w.heap.size, 2, none⟩ = some (.string W2) := by
    obtain ⟨b, off, e, _, hcell⟩ := hr2.at_ (hwd2)
    injection e with e
    injection e with e1 e2
    subst e1; subst e2
    simpa using hcell
  have HSZ := Lib.hid (show (w1.alloc (.cells #[.slice (some ⟨w.heap.size, 0, none⟩) n n] 32)).heap.size = w1.heap.size + 1 by simp)
  have hw1 := hb1.size
  clear hr1 hbx hr2 x0
  go_wp2
  generalize w1.alloc (.cells #[.slice (some ⟨w.heap.size, 0, none⟩) n n] 32) = w2 at *
  have x0 := X0.out
  have hbD : Below w.heap.size w w2.drew := ⟨hb2.os, hb2.tape, hb2.output, hb2.size, hb2.block⟩
  have HOD := Lib.hid (show OvA w2.drew g base needs targets own from HO2.out)
  have hh : (w2.drew.cell? ⟨w1.heap.size, 0, none⟩ = some (.slice (some ⟨w.heap.size, 0, none⟩) n n) ∧ w2.drew.cell? ⟨w.heap.size, 1, none⟩ = some (.string W1) ∧ w2.drew.cell? ⟨w.heap.size, 2, none⟩ = some (.string W2)) := ⟨x0, c1, c2⟩
  have HH := Lib.hid hh
  have hlb : w1.heap.size < w2.drew.heap.size := by have := HSZ.out; show w1.heap.size < w2.heap.size; omega
  have gl : g < w.heap.size := HOV.out.lt
  have N1 := Lib.hid (show some w1.heap.size ≠ some g by intro e; injection e with e; omega)
  have N2 := Lib.hid (show some w.heap.size ≠ some g by intro e; injection e with e; omega)
  clear hh
  go_region_held3 (fun w' => w'.cell? ⟨w1.heap.size, 0, none⟩ = some (.slice (some ⟨w.heap.size, 0, none⟩) n n) ∧ w'.cell? ⟨w.heap.size, 1, none⟩ = some (.string W1) ∧ w'.cell? ⟨w.heap.size, 2, none⟩ = some (.string W2))
    (first | exact ⟨k0, k1, k2⟩ | exact HH.out | exact ⟨x0, c1, c2⟩)
    (first
      | (go_at_call 30; refine (pass_copy g base needs targets own id W1 W2 _ HOD.out hsm (fun t W _ _ => copyFn_any t W)).mono ?_; rintro e w3 ⟨rfl, hov, hg⟩; have HV := Lib.hid hov; have HG := Lib.hid hg; have k0 : w3.cell? ⟨w1.heap.size, 0, none⟩ = some (.slice (some ⟨w.heap.size, 0, none⟩) n n) := hg.cell HH.out.1 N1.out; have k1 : w3.cell? ⟨w.heap.size, 1, none⟩ = some (.string W1) := hg.cell HH.out.2.1 N2.out; have k2 : w3.cell? ⟨w.heap.size, 2, none⟩ = some (.string W2) := hg.cell HH.out.2.2 N2.out; clear hov hg))
  go_wp2
  go_ret
  exact ⟨by rw [HRR.out]; rfl, by rw [HRR.out]; exact HV.out, grown_trans (grown_below hbD _) HG.out⟩

set_option maxHeartbeats 2000000 in
set_option maxRecDepth 100000 in
theorem run_turn (g : Nat) (base : List F) (needs targets : List ByteArray) (own : List F) (cmd : ByteArray) (ws : List ByteArray) (n : Nat) (r : Int × List F) (W1 W2 : ByteArray) (w : World) (h : OvA w g base needs targets own) (hsm : Small base needs targets own) (hm : MaxOk w) (hc : cmd.size ≤ 1000)
    (hws : words cmd = ws) (hn : ws.length = n) (hn9 : n ≤ 1001) (hwd0 : ws[0]? = some (⟨#[116, 117, 114, 110]⟩ : ByteArray)) (hwd1 : ws[1]? = some W1) (hwd2 : ws[2]? = some W2) (hcond : n = 3) (hr : r = passR base needs targets own revT W1 W2) :
    Calls Tryd.prog 17 #[.pointer (some ⟨g, 0, none⟩), .string cmd] w (RunPost g base needs targets r w) := by
  have hpos : 1 ≤ n := by omega
  have i0 : (0 : Int) < (n : Int) := by omega
  have i1 : (1 : Int) < (n : Int) := by omega
  have i2 : (2 : Int) < (n : Int) := by omega
  have q3 : ((n : Int) == 3) = true := by rw [beq_iff_eq]; omega
  have HC1 := Lib.hid hcond
  clear hcond
  have HOV := Lib.hid h
  have HW := Lib.hid hws
  have HN := Lib.hid hn
  have HRR := Lib.hid hr
  clear h hws hn hr
  go_enter Tryd.func17, Tryd.ntmps17
  go_wp2_with fail
  refine (split_any cmd w (by omega) hm).mono ?_
  rintro e w1 ⟨rfl, hr1, hb1⟩
  rw [HW.out, HN.out] at hr1
  rw [HW.out, HN.out]
  have hbx := (Below.refl w1.heap.size w1).alloc (Nat.le_refl _) (.cells #[.slice (some ⟨w.heap.size, 0, none⟩) n n] 32)
  have hb2 : Below w.heap.size w (w1.alloc (.cells #[.slice (some ⟨w.heap.size, 0, none⟩) n n] 32)) := hb1.trans (hbx.mono hb1.size)
  have hr2 := hr1.belowS hbx
  have HR2 := Lib.hid hr2
  have HO2 := Lib.hid (HOV.out.below hb2)
  have x0 : (w1.alloc (.cells #[.slice (some ⟨w.heap.size, 0, none⟩) n n] 32)).cell? ⟨w1.heap.size, 0, none⟩ = some (.slice (some ⟨w.heap.size, 0, none⟩) n n) := by rw [World.cell?_alloc_at _ _ _ _ rfl]; rfl
  have X0 := Lib.hid x0
  have c0 : (w1.alloc (.cells #[.slice (some ⟨w.heap.size, 0, none⟩) n n] 32)).cell? ⟨w.heap.size, 0, none⟩ = some (.string (⟨#[116, 117, 114, 110]⟩ : ByteArray)) := by
    obtain ⟨b, off, e, _, hcell⟩ := hr2.at_ (hwd0)
    injection e with e
    injection e with e1 e2
    subst e1; subst e2
    simpa using hcell
  have c1 : (w1.alloc (.cells #[.slice (some ⟨w.heap.size, 0, none⟩) n n] 32)).cell? ⟨w.heap.size, 1, none⟩ = some (.string W1) := by
    obtain ⟨b, off, e, _, hcell⟩ := hr2.at_ (hwd1)
    injection e with e
    injection e with e1 e2
    subst e1; subst e2
    simpa using hcell
  have c2 : (w1.alloc (.cells #[.slice (some ⟨w.heap.size, 0, none⟩) n n] 32)).cell? ⟨w.heap.size, 2, none⟩ = some (.string W2) := by
    obtain ⟨b, off, e, _, hcell⟩ := hr2.at_ (hwd2)
    injection e with e
    injection e with e1 e2
    subst e1; subst e2
    simpa using hcell
  have HSZ := Lib.hid (show (w1.alloc (.cells #[.slice (some ⟨w.heap.size, 0, none⟩) n n] 32)).heap.size = w1.heap.size + 1 by simp)
  have hw1 := hb1.size
  clear hr1 hbx hr2 x0
  go_wp2
  generalize w1.alloc (.cells #[.slice (some ⟨w.heap.size, 0, none⟩) n n] 32) = w2 at *
  have x0 := X0.out
  have hbD : Below w.heap.size w w2.drew := ⟨hb2.os, hb2.tape, hb2.output, hb2.size, hb2.block⟩
  have HOD := Lib.hid (show OvA w2.drew g base needs targets own from HO2.out)
  have hh : (w2.drew.cell? ⟨w1.heap.size, 0, none⟩ = some (.slice (some ⟨w.heap.size, 0, none⟩) n n) ∧ w2.drew.cell? ⟨w.heap.size, 1, none⟩ = some (.string W1) ∧ w2.drew.cell? ⟨w.heap.size, 2, none⟩ = some (.string W2)) := ⟨x0, c1, c2⟩
  have HH := Lib.hid hh
  have hlb : w1.heap.size < w2.drew.heap.size := by have := HSZ.out; show w1.heap.size < w2.heap.size; omega
  have gl : g < w.heap.size := HOV.out.lt
  have N1 := Lib.hid (show some w1.heap.size ≠ some g by intro e; injection e with e; omega)
  have N2 := Lib.hid (show some w.heap.size ≠ some g by intro e; injection e with e; omega)
  clear hh
  go_region_held3 (fun w' => w'.cell? ⟨w1.heap.size, 0, none⟩ = some (.slice (some ⟨w.heap.size, 0, none⟩) n n) ∧ w'.cell? ⟨w.heap.size, 1, none⟩ = some (.string W1) ∧ w'.cell? ⟨w.heap.size, 2, none⟩ = some (.string W2))
    (first | exact ⟨k0, k1, k2⟩ | exact HH.out | exact ⟨x0, c1, c2⟩)
    (first
      | (go_at_call 30; refine (pass_turn g base needs targets own revT W1 W2 _ HOD.out hsm (fun t W ht _ => turned_any t W (by omega))).mono ?_; rintro e w3 ⟨rfl, hov, hg⟩; have HV := Lib.hid hov; have HG := Lib.hid hg; have k0 : w3.cell? ⟨w1.heap.size, 0, none⟩ = some (.slice (some ⟨w.heap.size, 0, none⟩) n n) := hg.cell HH.out.1 N1.out; have k1 : w3.cell? ⟨w.heap.size, 1, none⟩ = some (.string W1) := hg.cell HH.out.2.1 N2.out; have k2 : w3.cell? ⟨w.heap.size, 2, none⟩ = some (.string W2) := hg.cell HH.out.2.2 N2.out; clear hov hg))
  go_wp2
  go_ret
  exact ⟨by rw [HRR.out]; rfl, by rw [HRR.out]; exact HV.out, grown_trans (grown_below hbD _) HG.out⟩
end Go.Proofs.YtmadegpbinnnfaaDoor
