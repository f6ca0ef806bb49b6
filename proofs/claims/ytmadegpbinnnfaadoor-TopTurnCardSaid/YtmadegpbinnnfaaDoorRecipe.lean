/-
  WALKS: recipe.All over small files and commands; hammerpondlaw.LightGroup; hammerpondlaw.recipes.
-/
import Derived.Test.YtmadegpbinnnfaaDoorAll
import Derived.Test.YtmadegpbinnnfaaDoorRun
import Derived.Test.YtmadegpbinnnfaaDoorConc
namespace Go.Proofs.YtmadegpbinnnfaaDoor
open Go.RowKit

theorem all_small (ph : Bool) (A An At Ac : Option Addr) (n c nn cn nt ct nc cc : Nat) (base : List F) (needs targets cmds : List ByteArray) (r : Int × List F) (w : World)
    (h : RdF w w.heap.size A n c base) (h1 : RdS w w.heap.size An nn cn needs) (h2 : RdS w w.heap.size At nt ct targets) (h3 : RdS w w.heap.size Ac nc cc cmds)
    (hsm : Small base needs targets []) (hn3 : nc ≤ 700000) (hcs : ∀ x ∈ cmds, x.size ≤ 1000) (hm : MaxOk w) (hr : r = allR base needs targets cmds []) :
    Calls Tryd.prog 13 #[.slice A n c, .agg #[.slice At nt ct, .slice An nn cn, .slice Ac nc cc, .bool ph]] w (AllPost r w) := by
  have hl := h3.1
  refine all_any (fun k own => k ≤ nc ∧ Small base needs targets own ∧ own.length ≤ k) ph A An At Ac n c nn cn nt ct nc cc base needs targets cmds r w h h1 h2 h3 (by rw [← h.1]; exact hsm.lb) (by rw [← h1.1]; exact hsm.ln) (by rw [← h2.1]; exact hsm.lt) (by omega) hm ⟨Nat.zero_le _, hsm, Nat.le_refl _⟩ ?_ ?_ ?_ hr
  · intro k own cmd g W hx hp hov hmo
    exact run_any g base needs targets own cmd W hov hp.2.1 hmo (hcs cmd (List.mem_of_getElem? hx))
  · intro k own cmd hx hp _
    have hk : k < nc := by have := (List.getElem?_eq_some_iff.1 hx).1; omega
    have hg := runR_grows (base := base) (needs := needs) (targets := targets) hp.2.1.ro (words cmd)
    exact ⟨hk, hp.2.1.next (by have := hp.2.2; omega) _, by have := hg.2.1; have := hp.2.2; omega⟩
  · intro k own hp
    have := hp.1
    have := hp.2.2
    omega

def LgPost (needs targets cmds : List ByteArray) (w : World) (e : Ending) (w' : World) : Prop :=
  ∃ b, e = .returned (.bool b) ∧ (b = true → ShortT targets 4 20 ∧ ShortT needs 5 20 ∧ ShortT cmds 5 100) ∧ Below w.heap.size w w'

set_option maxHeartbeats 1000000 in
set_option maxRecDepth 100000 in
theorem lightGroup_any (ph : Bool) (An At Ac : Option Addr) (nn cn nt ct nc cc : Nat) (needs targets cmds : List ByteArray) (w : World)
    (h1 : RdS w w.heap.size An nn cn needs) (h2 : RdS w w.heap.size At nt ct targets) (h3 : RdS w w.heap.size Ac nc cc cmds) :
    Calls Tryd.prog 12 #[.agg #[.slice At nt ct, .slice An nn cn, .slice Ac nc cc, .bool ph]] w (LgPost needs targets cmds w) := by
  have hb0 : Below w.heap.size w (w.alloc (.cells #[.slice At nt ct, .slice An nn cn, .slice Ac nc cc, .bool ph] 34)) := (Below.refl _ _).alloc (Nat.le_refl _) _
  have H1 := Lib.hid (h1.belowS hb0)
  have H2 := Lib.hid (h2.belowS hb0)
  have H3 := Lib.hid (h3.belowS hb0)
  have z1 : (w.alloc (.cells #[.slice At nt ct, .slice An nn cn, .slice Ac nc cc, .bool ph] 34)).cell? ⟨w.heap.size, 1, none⟩ = some (.slice An nn cn) := by rw [World.cell?_alloc_at _ _ _ _ rfl]; rfl
  have z2 : (w.alloc (.cells #[.slice At nt ct, .slice An nn cn, .slice Ac nc cc, .bool ph] 34)).cell? ⟨w.heap.size, 2, none⟩ = some (.slice Ac nc cc) := by rw [World.cell?_alloc_at _ _ _ _ rfl]; rfl
  have Z1 := Lib.hid z1
  have Z2 := Lib.hid z2
  clear h1 h2 h3 z1 z2
  go_enter Tryd.func12, Tryd.ntmps12
  go_wp2_with fail
  generalize w.alloc (.cells #[.slice At nt ct, .slice An nn cn, .slice Ac nc cc, .bool ph] 34) = w1 at *
  have z1 := Z1.out
  have z2 := Z2.out
  refine (lightTexts_any At nt ct targets 4 20 w1 H2.out (by omega) (by omega)).mono ?_
  rintro e w4 ⟨b, rfl, hl1, rfl⟩
  have HL1 := Lib.hid hl1
  clear hl1
  cases b with
  | false =>
    go_wp2
    go_ret
    exact ⟨false, rfl, (by intro h; cases h), hb0⟩
  | true =>
    go_wp2_with fail
    refine (lightTexts_any An nn cn needs 5 20 w1 H1.out (by omega) (by omega)).mono ?_
    rintro e w4 ⟨b, rfl, hl1, rfl⟩
    have HL2 := Lib.hid hl1
    clear hl1
    cases b with
    | false =>
      go_wp2
      go_ret
      exact ⟨false, rfl, (by intro h; cases h), hb0⟩
    | true =>
      go_wp2_with fail
      refine (lightTexts_any Ac nc cc cmds 5 100 w1 H3.out (by omega) (by omega)).mono ?_
      rintro e w4 ⟨b, rfl, hl1, rfl⟩
      have HL3 := Lib.hid hl1
      clear hl1
      cases b with
      | false =>
        go_wp2
        go_ret
        exact ⟨false, rfl, (by intro h; cases h), hb0⟩
      | true =>
        go_wp2
        go_ret
        exact ⟨true, rfl, fun _ => ⟨HL1.out (by simp), HL2.out (by simp), HL3.out (by simp)⟩, hb0⟩

theorem small_one (a t b c : ByteArray) (needs targets : List ByteArray) (hn : needs.length ≤ 5) (ht : targets.length ≤ 5) (h : t.size ≤ 60) : Small [(a, t)] needs targets [] := by
  refine ⟨List.pairwise_singleton _ _, List.Pairwise.nil, by simp, by simp, by omega, by omega, ?_, by simp⟩
  intro f hf
  have : f = (a, t) := by simpa using hf
  rw [this]; exact h

theorem recipes_call (ph : Bool) (A An At Ac : Option Addr) (w : World) (g1 : RdF w w.heap.size A 1 1 [(⟨#[97]⟩, ⟨#[120, 121]⟩)]) (g2 : RdS w w.heap.size An 1 1 [⟨#[97]⟩]) (g3 : RdS w w.heap.size At 1 1 [⟨#[98]⟩]) (g4 : RdS w w.heap.size Ac 1 1 [⟨#[116, 117, 114, 110, 32, 97, 32, 98]⟩]) (hm : MaxOk w) :
    Calls Tryd.prog 13 #[.slice A 1 1, .agg #[.slice At 1 1, .slice An 1 1, .slice Ac 1 1, .bool ph]] w (AllPost (0, [(⟨#[98]⟩, ⟨#[121, 120]⟩)]) w) := by
  refine all_small ph A An At Ac 1 1 1 1 1 1 1 1 _ _ _ _ _ w g1 g2 g3 g4 ?_ (by omega) ?_ hm all_recipes.symm
  · exact small_one _ _ ⟨#[]⟩ ⟨#[]⟩ _ _ (by simp) (by simp) (by simp [ByteArray.size])
  · intro x hx
    have : x = ⟨#[116, 117, 114, 110, 32, 97, 32, 98]⟩ := by simpa using hx
    rw [this]; simp [ByteArray.size]

set_option maxHeartbeats 1000000 in
set_option maxRecDepth 100000 in
theorem recipes_any (w : World) (hm : MaxOk w) : Calls Tryd.prog 10 #[] w fun e w' => e = .returned (.bool true) ∧ Below w.heap.size w w' := by
  go_enter Tryd.func10, Tryd.ntmps10
  go_wp2_with fail
  have b1 : Below w.heap.size w (w.alloc (.cells #[.string ⟨#[97]⟩, .string ⟨#[120, 121]⟩] 52)) := (Below.refl _ _).alloc (Nat.le_refl _) _
  have r1 := RdF_one w ⟨#[97]⟩ ⟨#[120, 121]⟩ 52
  have s1 : (w.alloc (.cells #[.string ⟨#[97]⟩, .string ⟨#[120, 121]⟩] 52)).heap.size = w.heap.size + 1 := by simp
  generalize w.alloc (.cells #[.string ⟨#[97]⟩, .string ⟨#[120, 121]⟩] 52) = wa at *
  have b2 : Below wa.heap.size wa (wa.alloc (.cells #[.string ⟨#[98]⟩] 9)) := (Below.refl _ _).alloc (Nat.le_refl _) _
  have r2 := RdS_one' wa ⟨#[98]⟩ 9
  have s2 : (wa.alloc (.cells #[.string ⟨#[98]⟩] 9)).heap.size = wa.heap.size + 1 := by simp
  generalize wa.alloc (.cells #[.string ⟨#[98]⟩] 9) = wb at *
  have b3 : Below wb.heap.size wb (wb.alloc (.cells #[.string ⟨#[97]⟩] 9)) := (Below.refl _ _).alloc (Nat.le_refl _) _
  have r3 := RdS_one' wb ⟨#[97]⟩ 9
  have s3 : (wb.alloc (.cells #[.string ⟨#[97]⟩] 9)).heap.size = wb.heap.size + 1 := by simp
  generalize wb.alloc (.cells #[.string ⟨#[97]⟩] 9) = wc at *
  have b4 : Below wc.heap.size wc (wc.alloc (.cells #[.string ⟨#[116, 117, 114, 110, 32, 97, 32, 98]⟩] 9)) := (Below.refl _ _).alloc (Nat.le_refl _) _
  have r4 := RdS_one' wc ⟨#[116, 117, 114, 110, 32, 97, 32, 98]⟩ 9
  have s4 : (wc.alloc (.cells #[.string ⟨#[116, 117, 114, 110, 32, 97, 32, 98]⟩] 9)).heap.size = wc.heap.size + 1 := by simp
  generalize wc.alloc (.cells #[.string ⟨#[116, 117, 114, 110, 32, 97, 32, 98]⟩] 9) = wd at *
  rw [s1] at r2 s2 b2
  rw [s2] at r3 s3 b3
  rw [s3] at r4 s4 b4
  have g1 : RdF wd wd.heap.size (some ⟨w.heap.size, 0, none⟩) 1 1 [(⟨#[97]⟩, ⟨#[120, 121]⟩)] := (((r1.below b2).below (b3.mono (by omega))).below (b4.mono (by omega))).more (by omega)
  have g2 : RdS wd wd.heap.size (some ⟨w.heap.size + 1, 0, none⟩) 1 1 [⟨#[98]⟩] := ((r2.below b3).below (b4.mono (by omega))).more (by omega)
  have g3 : RdS wd wd.heap.size (some ⟨w.heap.size + 1 + 1, 0, none⟩) 1 1 [⟨#[97]⟩] := (r3.below b4).more (by omega)
  have g4 : RdS wd wd.heap.size (some ⟨w.heap.size + 1 + 1 + 1, 0, none⟩) 1 1 [⟨#[116, 117, 114, 110, 32, 97, 32, 98]⟩] := r4.more (by omega)
  have hbw : Below w.heap.size w wd := ((b1.trans (b2.mono (by omega))).trans (b3.mono (by omega))).trans (b4.mono (by omega))
  clear r1 r2 r3 r4 s1 s2 s3 s4 b1 b2 b3 b4
  refine (recipes_call false _ _ _ _ wd g1 g3 g2 g4 (hm.below hbw)).mono ?_
  rintro e w1 ⟨A1, n1, c1, rfl, hr1, hb1⟩
  obtain rfl : n1 = 1 := hr1.1.symm
  have hb2 : Below w.heap.size w w1 := hbw.trans (hb1.mono hbw.size)
  have HR1 := Lib.hid hr1
  clear hr1 g1 g2 g3 g4 hb1 hbw
  go_wp2_with fail
  refine (same_errV 0 (by omega) _).mono ?_
  rintro e w4 ⟨rfl, rfl⟩
  go_wp2_with fail
  have b5 : Below w1.heap.size w1 (w1.alloc (.cells #[.string ⟨#[98]⟩, .string ⟨#[121, 120]⟩] 52)) := (Below.refl _ _).alloc (Nat.le_refl _) _
  have r5 := (RdF_one w1 ⟨#[98]⟩ ⟨#[121, 120]⟩ 52).more (B' := (w1.alloc (.cells #[.string ⟨#[98]⟩, .string ⟨#[121, 120]⟩] 52)).heap.size) (by simp)
  refine (same_any A1 _ 1 c1 1 [(⟨#[98]⟩, ⟨#[121, 120]⟩)] _ (HR1.out.belowS b5) r5).mono ?_
  rintro e w5 ⟨rfl, q, rfl⟩
  have hb : Below w.heap.size w (w1.alloc (.cells #[.string ⟨#[98]⟩, .string ⟨#[121, 120]⟩] 52)) := hb2.trans (b5.mono hb2.size)
  go_wp2
  go_ret
  exact ⟨rfl, ⟨hb.os, hb.tape, hb.output, hb.size, hb.block⟩⟩
end Go.Proofs.YtmadegpbinnnfaaDoor
