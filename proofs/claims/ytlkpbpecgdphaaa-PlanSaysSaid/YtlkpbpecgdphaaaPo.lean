/-
  WALK: hammerpondlaw.plans (the closed fact).
-/
import Derived.Test.YtlkpbpecgdphaaaPj
import Derived.Test.YtlkpbpecgdphaaaUd
import Derived.Test.YtlkpbpecgdphaaaUs
namespace Go.Proofs.Ytlkpbpecgdphaaa
open Go.RowKit

def gPlan : Gp := ⟨[⟨#[98]⟩], [], [⟨#[112, 117, 116, 32, 98, 32, 120]⟩], false⟩
set_option maxRecDepth 100000 in
theorem stale_plan : staleR [] [] [gPlan] = [true] := by decide +kernel
set_option maxRecDepth 100000 in
theorem units_plan : unitsF (clUpto 1 [true] (mkM [gPlan]) 1) 1 (phV [gPlan]) = [[0]] := by decide +kernel
theorem rdS_one (w : World) (s : ByteArray) : RdS (w.alloc (.cells #[.string s] tStr)) (w.heap.size + 1) (some ⟨w.heap.size, 0, none⟩) 1 1 [s] := by
  refine ⟨rfl, Nat.le_refl _, by unfold maxLen; omega, fun _ => ⟨w.heap.size, 0, rfl, by omega, fun j u hu => ?_⟩⟩
  have hj : j = 0 := by have := (List.getElem?_eq_some_iff.1 hu).1; simp at this; exact this
  subst hj
  simp at hu
  subst hu
  rw [Nat.add_zero, (Blk.new w tStr #[.string s]).cell]; rfl
set_option maxRecDepth 100000 in
set_option maxHeartbeats 4000000 in
theorem plans_any (w : World) : Calls Try.prog 4 #[] w fun e w' => e = .returned (.bool true) ∧ Below w.heap.size w w' := by
  have s1 : (w.alloc (.cells #[.string ⟨#[98]⟩] tStr)).heap.size = w.heap.size + 1 := by simp
  have s2 : ((w.alloc (.cells #[.string ⟨#[98]⟩] tStr)).alloc (.cells #[.string ⟨#[112, 117, 116, 32, 98, 32, 120]⟩] tStr)).heap.size = w.heap.size + 2 := by simp
  have b1 : Below w.heap.size w (w.alloc (.cells #[.string ⟨#[98]⟩] tStr)) := (Below.refl _ _).alloc (Nat.le_refl _) _
  have b2 := Below.alloc (Below.refl (w.alloc (.cells #[.string ⟨#[98]⟩] tStr)).heap.size (w.alloc (.cells #[.string ⟨#[98]⟩] tStr))) (Nat.le_refl _) (.cells #[.string ⟨#[112, 117, 116, 32, 98, 32, 120]⟩] tStr)
  have b3 := Below.alloc (Below.refl ((w.alloc (.cells #[.string ⟨#[98]⟩] tStr)).alloc (.cells #[.string ⟨#[112, 117, 116, 32, 98, 32, 120]⟩] tStr)).heap.size ((w.alloc (.cells #[.string ⟨#[98]⟩] tStr)).alloc (.cells #[.string ⟨#[112, 117, 116, 32, 98, 32, 120]⟩] tStr))) (Nat.le_refl _) (.cells #[.slice (some ⟨w.heap.size, 0, none⟩) 1 1, .slice none 0 0, .slice (some ⟨w.heap.size + 1, 0, none⟩) 1 1, .bool false] tGr)
  have r1 := rdS_one w ⟨#[98]⟩
  have r2 := rdS_one (w.alloc (.cells #[.string ⟨#[98]⟩] tStr)) ⟨#[112, 117, 116, 32, 98, 32, 120]⟩
  rw [s1] at r2 b2
  have r1' := RdS.belowS (by rw [s1]; exact r1) (b2.mono (by rw [s1]; exact Nat.le_refl _))
  have r1'' := RdS.belowS r1' b3
  have r2'' := RdS.belowS (by rw [s2]; exact r2) b3
  have pg := Blk.new ((w.alloc (.cells #[.string ⟨#[98]⟩] tStr)).alloc (.cells #[.string ⟨#[112, 117, 116, 32, 98, 32, 120]⟩] tStr)) tGr #[.slice (some ⟨w.heap.size, 0, none⟩) 1 1, .slice none 0 0, .slice (some ⟨w.heap.size + 1, 0, none⟩) 1 1, .bool false]
  rw [s2] at pg
  have hb3 : Below w.heap.size w (((w.alloc (.cells #[.string ⟨#[98]⟩] tStr)).alloc (.cells #[.string ⟨#[112, 117, 116, 32, 98, 32, 120]⟩] tStr)).alloc (.cells #[.slice (some ⟨w.heap.size, 0, none⟩) 1 1, .slice none 0 0, .slice (some ⟨w.heap.size + 1, 0, none⟩) 1 1, .bool false] tGr)) := (b1.alloc (by rw [s1]; omega) _).alloc (by rw [s2]; omega) _
  have hgp : GpRd (((w.alloc (.cells #[.string ⟨#[98]⟩] tStr)).alloc (.cells #[.string ⟨#[112, 117, 116, 32, 98, 32, 120]⟩] tStr)).alloc (.cells #[.slice (some ⟨w.heap.size, 0, none⟩) 1 1, .slice none 0 0, .slice (some ⟨w.heap.size + 1, 0, none⟩) 1 1, .bool false] tGr)) (some ⟨w.heap.size + 2, 0, none⟩) 1 1 [gPlan] [(.slice (some ⟨w.heap.size, 0, none⟩) 1 1, .slice none 0 0, .slice (some ⟨w.heap.size + 1, 0, none⟩) 1 1, false)] := by
    refine ⟨⟨rfl, Nat.le_refl _, by unfold maxLen; omega, fun _ => ⟨w.heap.size + 2, 0, rfl, by simp, fun j u hu => ?_⟩⟩, rfl, fun i x g hx hg => ?_⟩
    · rw [Nat.zero_add, pg.cell]
      rw [show gcells [((.slice (some ⟨w.heap.size, 0, none⟩) 1 1 : Value), (.slice none 0 0 : Value), (.slice (some ⟨w.heap.size + 1, 0, none⟩) 1 1 : Value), false)] = (#[.slice (some ⟨w.heap.size, 0, none⟩) 1 1, .slice none 0 0, .slice (some ⟨w.heap.size + 1, 0, none⟩) 1 1, .bool false] : Array Value).toList from rfl, Array.getElem?_toList] at hu
      exact hu
    · have hi : i = 0 := by have := (List.getElem?_eq_some_iff.1 hx).1; simp at this; exact this
      subst hi
      simp at hx hg
      subst hx hg
      exact ⟨⟨_, 1, rfl, r1''⟩, ⟨none, 0, rfl, RdS.nil _ _⟩, ⟨_, 1, rfl, r2''⟩, rfl⟩
  generalize hw3 : ((w.alloc (.cells #[.string ⟨#[98]⟩] tStr)).alloc (.cells #[.string ⟨#[112, 117, 116, 32, 98, 32, 120]⟩] tStr)).alloc (.cells #[.slice (some ⟨w.heap.size, 0, none⟩) 1 1, .slice none 0 0, .slice (some ⟨w.heap.size + 1, 0, none⟩) 1 1, .bool false] tGr) = w3 at *
  have HW3 := Lib.hid hw3
  have HB3 := Lib.hid hb3
  have HGP := Lib.hid hgp
  have hst := stale_any (.map none) 0 [] (some ⟨w.heap.size + 2, 0, none⟩) none 1 1 0 0 [gPlan] _ [] w3 hgp ⟨[], .inl ⟨rfl, rfl⟩, fun s => .inl ⟨rfl, rfl⟩⟩ (fun s r h => by cases h) (RdF.nil _ _) List.Pairwise.nil (fun g hg => by rw [List.mem_singleton.1 hg]; decide) (by omega) (by omega)
  rw [stale_plan] at hst
  have HST := Lib.hid hst
  clear s1 s2 b1 b2 b3 r1 r2 r1' r1'' r2'' pg hb3 hgp hst hw3
  go_enter Try.func4, Try.ntmps4
  go_wp2_with fail
  rw [HW3.out]
  refine HST.out.mono ?_
  rintro e w4 ⟨rfl, hbk, hb4⟩
  have hun := units_any w4 (some ⟨w.heap.size + 2, 0, none⟩) (some ⟨w3.heap.size, 0, none⟩) 1 1 1 1 [gPlan] _ [true] (HGP.out.belowS hb4) (bArr_rdx hbk) (by omega) (by omega) (fun g hg => by rw [List.mem_singleton.1 hg]; decide)
  rw [units_plan] at hun
  have HUN := Lib.hid hun
  have c0 : w4.cell? ⟨w3.heap.size, 0, none⟩ = some (.bool true) := hbk.cell 0
  have HB4 := Lib.hid (HB3.out.trans (hb4.mono HB3.out.size))
  clear hbk hb4 hun HST HGP
  go_wp2_with fail
  refine HUN.out.mono ?_
  rintro e w5 ⟨A5, c5, V, rfl, hun, hb5⟩
  have s1 : (w5.alloc (.cells #[.int .i64 0] tI)).heap.size = w5.heap.size + 1 := by simp
  have h5a : Below w5.heap.size w5 (w5.alloc (.cells #[.int .i64 0] tI)) := (Below.refl _ _).alloc (Nat.le_refl _) _
  have h5b : Below w5.heap.size w5 ((w5.alloc (.cells #[.int .i64 0] tI)).alloc (.cells #[.slice (some ⟨w5.heap.size, 0, none⟩) 1 1] tII)) := h5a.alloc (by rw [s1]; omega) _
  have hu1 := hun.rd.low h5b
  have p1 := (Blk.new w5 tI #[.int .i64 0]).alloc (.cells #[.slice (some ⟨w5.heap.size, 0, none⟩) 1 1] tII)
  have p2 := Blk.new (w5.alloc (.cells #[.int .i64 0] tI)) tII #[.slice (some ⟨w5.heap.size, 0, none⟩) 1 1]
  rw [s1] at p2
  have hu2 : UnRd ((w5.alloc (.cells #[.int .i64 0] tI)).alloc (.cells #[.slice (some ⟨w5.heap.size, 0, none⟩) 1 1] tII)) (some ⟨w5.heap.size + 1, 0, none⟩) 1 [[0]] := by
    refine ⟨rfl, by unfold maxLen; omega, fun i u hu => ?_⟩
    have hi : i = 0 := by have := (List.getElem?_eq_some_iff.1 hu).1; simp at this; exact this
    subst hi
    simp at hu
    subst hu
    refine ⟨w5.heap.size + 1, 0, some ⟨w5.heap.size, 0, none⟩, 1, rfl, p2.cell 0, ⟨rfl, fun v hv => by simp [ints] at hv; subst hv; rfl, fun _ => ⟨w5.heap.size, 0, rfl, fun j v hv => ?_⟩⟩, by unfold maxLen; simp⟩
    rw [Nat.zero_add, p1.cell]
    rw [show ints [0] = (#[.int .i64 0] : Array Value).toList from rfl, Array.getElem?_toList] at hv
    exact hv
  have HSU := Lib.hid (sameUnits_any A5 (some ⟨w5.heap.size + 1, 0, none⟩) 1 c5 1 [[0]] _ hu1 hu2)
  have HB5 := Lib.hid (HB4.out.trans ((hb5.trans (h5b.mono hb5.size)).mono HB4.out.size))
  clear s1 h5a h5b hu1 p1 p2 hu2 hun hb5
  go_wp2_with fail
  refine HSU.out.mono ?_
  rintro e w6 ⟨rfl, hb6⟩
  have HB6 := Lib.hid (HB5.out.trans (hb6.mono HB5.out.size))
  clear hb6
  go_wp2
  go_ret
  exact ⟨rfl, HB6.out⟩
end Go.Proofs.Ytlkpbpecgdphaaa
