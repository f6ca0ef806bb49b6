/-
  WALK: package disk: slices.DeleteFunc over the writes of a sector, where some are struck.
-/
import Derived.Test.YtgkenknplepmeaaDdA
namespace Go.Proofs.Ytgkenknplepmeaa
open Go.RowKit

set_option maxRecDepth 100000 in
set_option maxHeartbeats 2000000 in
theorem deleteF_hit (base X nx m c : Nat) (A : Option Addr) (ws : SW) (w : World) (ho : w.ownsRow base tWt 341 (.slice A m c) m (wsC ws)) (hm : ws.length = m) (hs : ∀ x ∈ ws, x.2.size = 340) (hx : w.cell? ⟨X, 0, none⟩ = some (.int .i64 nx)) (hX : X < w.heap.size) (hXne : (Value.slice A m c).ownBlock ≠ some X) (hn : ∃ x ∈ ws, x.1 = nx) (hm2 : m ≤ 1000000) :
    Calls Try.prog 88 #[.slice A m c, sameBit X] w (DelPost w base nx m c A ws) := by
  have HC := Lib.hid (indexF_hit base X nx m c A ws w ho hm hs hx hX hn hm2)
  obtain ⟨g, rfl⟩ : ∃ g, A = some ⟨g, 0, none⟩ := by
    rcases ho.2 with ⟨e, h⟩ | ⟨g, cap, cur, e, _⟩
    · obtain ⟨x, hx, _⟩ := hn
      have : 0 < ws.length := List.length_pos_of_mem hx
      omega
    · injection e with e1; exact ⟨g, e1⟩
  obtain ⟨cur, hbg, hblk, hmc, hcm, hcur⟩ : ∃ cur, base ≤ g ∧ Blk w g tWt cur ∧ m ≤ c ∧ c ≤ maxLen ∧ cur.size = c * 341 := by
    rcases ho.2 with ⟨e, h⟩ | ⟨g', cap, cur, e, h1, h2, h3, h4, h5, _⟩
    · cases e
    · injection e with e1 e2 e3
      injection e1 with e1
      injection e1 with e1
      subst e1 e3
      exact ⟨cur, h1, h2, h3, h4, h5⟩
  have hXg : X ≠ g := fun e => hXne (by rw [e]; rfl)
  have hg := ho.lt g rfl
  have HO := Lib.hid ho
  have HM := Lib.hid hm
  have HS := Lib.hid hs
  have HX := Lib.hid hx
  have HBLK := Lib.hid hblk
  have HCUR := Lib.hid hcur
  have HCM := Lib.hid hcm
  have hcm' := hcm
  unfold maxLen at hcm'
  clear ho hm hs hn hx hblk hcur hXne hcm
  go_enter Try.func88, Try.ntmps88
  go_wp2_with fail
  refine HC.out.mono ?_
  rintro e w1 ⟨i0, hi0, rfl, hb1, hno, x0, hx0, he0⟩
  have hne1 : ((i0 : Int) == -1) = false := by rw [beq_eq_false_iff_ne]; omega
  have hst0 : strikeW nx (ws.take i0) = ws.take i0 := strikeW_none (fun x hx => by
    obtain ⟨j, hj, e⟩ := List.mem_iff_getElem.1 hx
    rw [List.length_take] at hj
    rw [List.getElem_take] at e
    exact hno j x (by omega) (by rw [List.getElem?_eq_getElem (by omega), e]))
  have hst1 : strikeW nx (ws.take (i0 + 1)) = ws.take i0 := by rw [strikeW_hit hx0 he0, hst0]
  have hl0 : (ws.take i0).length = i0 := by rw [List.length_take]; have := HM.out; omega
  have HD0 := Lib.hid (show DelAt w w1 g c nx (i0 + 1) ws from by
    have eb := hb1.block g hg.2
    refine ⟨⟨cur, eb.trans HBLK.out, HCUR.out⟩, ?_, fun q x hq hx => ?_, ⟨hb1.os, hb1.tape, hb1.output, hb1.size, fun i hi _ => hb1.block i hi⟩⟩
    · rw [hst1]
      intro j v hv
      have hj : j < (wsC (ws.take i0)).length := (List.getElem?_eq_some_iff.1 hv).1
      have hsp : wsC ws = wsC (ws.take i0) ++ wsC (ws.drop i0) := by unfold wsC; rw [← List.flatMap_append, List.take_append_drop]
      have h2 := HO.out.cells (g := g) rfl j v (by rw [hsp, List.getElem?_append_left hj]; exact hv)
      rw [Go.WideShapes.add_plain] at h2
      exact (World.cell?_of_block (w := w) (a := ⟨g, 0 + j, none⟩) eb).trans h2
    · intro j v hv
      have h2 := HO.out.cells (g := g) rfl _ _ (wsC_at HS.out hx j v hv)
      rw [Go.WideShapes.add_plain, Nat.zero_add] at h2
      exact (World.cell?_of_block (w := w) (a := ⟨g, q * 341 + j, none⟩) eb).trans h2)
  have HL1 := Lib.hid (show (strikeW nx (ws.take (i0 + 1))).length = i0 by rw [hst1, hl0])
  have hz1 := hb1.size
  clear hst0 hst1 hl0 hno hx0 he0 hb1 HC HO HBLK HCUR
  go_wp2_with fail
  go_loopw [5, 6] (fun i j wr => DelRel w g c nx m ws i j wr) (fun _ j _ => m - (intOf j).toNat)
  case atStart => exact ⟨i0 + 1, by omega, by rw [HL1.out]; omega, by go_num, by rw [HL1.out], HD0.out⟩
  case round =>
    obtain ⟨k, hk, hlen, rfl, rfl, hd⟩ := hrel
    obtain ⟨q, hq⟩ : ∃ q, (strikeW nx (ws.take k)).length = q := ⟨_, rfl⟩
    rw [hq] at hlen ⊢
    have HQ := Lib.hid hq
    have HD := Lib.hid hd
    have hgr : g < wr.heap.size := by have := hd.upd.size; omega
    have hXr : X < wr.heap.size := by have := hd.upd.size; omega
    have HcX := Lib.hid (show wr.cell? ⟨X, 0, none⟩ = some (.int .i64 nx) from (World.cell?_of_block (w := w) (a := ⟨X, 0, none⟩) (hd.upd.block X hX hXg)).trans HX.out)
    clear hd hq HD0 HL1 hz1 hne1
    by_cases hlt : k < m
    · obtain ⟨x, hx⟩ : ∃ x, ws[k]? = some x := ⟨_, List.getElem?_eq_getElem (by have := HM.out; omega)⟩
      have hxm : x ∈ ws := List.mem_of_getElem? hx
      have hkm : (k : Int) < (m : Int) := by omega
      have hkc : k < c := by omega
      have hlenx := wrC_len (HS.out x hxm)
      have HRG := Lib.hid (HD.out.rest k x (Nat.le_refl _) hx)
      have HI := Lib.hid (show (Try.prog.info? tWt).map (·.size) = some (wrC x).length by rw [hlenx]; exact wt_info)
      have HIa := Lib.hid (show (Try.prog.info? tWt).map (·.size) = some (wrC x).toArray.size by rw [List.size_toArray, hlenx]; exact wt_info)
      have HO1 := Lib.hid (all_oneCell_toArray (wrC_one x))
      have hz : Try.zeroCells106.size = 341 := by kernel_rfl
      have hth : (wr.alloc (.cells Try.zeroCells106 tWt)).there wr.heap.size 0 (wrC x).toArray.size := fun j hj => by
        rw [List.size_toArray, hlenx] at hj
        refine ⟨?_, (Blk.new wr tWt _).free _⟩
        rw [(Blk.new wr tWt _).cell, Array.getElem?_eq_getElem (by omega)]
        rfl
      have hb2 : Below wr.heap.size wr ((wr.alloc (.cells Try.zeroCells106 tWt)).setCells wr.heap.size 0 (wrC x)) := below_cells (Nat.le_refl _) _ _ _ ((Below.refl _ _).alloc (Nat.le_refl _) _)
      have hr2 := World.rangeAt_setCells_same (wr.alloc (.cells Try.zeroCells106 tWt)) wr.heap.size 0 (wrC x) (by rw [List.size_toArray] at hth; exact hth)
      have hs2 : wr.heap.size < ((wr.alloc (.cells Try.zeroCells106 tWt)).setCells wr.heap.size 0 (wrC x)).heap.size := World.block_lt_of_cell? _ _ (hr2 0 _ (List.getElem?_eq_getElem (by omega)))
      have HTH := Lib.hid hth
      have HR2 := Lib.hid hr2
      have HB2 := Lib.hid hb2
      have HD2 := Lib.hid (HD.out.below hb2)
      have HcX2 := Lib.hid ((hb2.cell (p := ⟨X, 0, none⟩) hXr).trans HcX.out)
      have HXX := Lib.hid hx
      have HLX := Lib.hid hlenx
      clear hth hr2 hb2 hz hlenx hx hxm HcX HD
      go_wp2_with fail
      refine wp_load_mid tWt (.tmp 24) rfl g (k * 341) rfl _ _ HRG.out Try.underlying106 rfl HI.out ?_
      go_wp2_with (refine wpList_store_mid rfl tWt (.tmp 7) (.tmp 25) rfl wr.heap.size 0 (wrC x).toArray rfl rfl HTH.out HIa.out HO1.out ?_)
      clear HTH HRG
      try rw [List.toList_toArray]
      generalize (wr.alloc (.cells Try.zeroCells106 tWt)).setCells wr.heap.size 0 (wrC x) = w2 at *
      refine wp_load_mid tWt (.tmp 7) rfl wr.heap.size 0 rfl _ _ HR2.out Try.underlying106 rfl HI.out ?_
      have hX2 : X < w2.heap.size := by omega
      by_cases hh : x.1 = nx
      · have HC := Lib.hid (bit_hit x X nx w2 HcX2.out hX2 hh)
        have HH := Lib.hid hh
        clear hh hX2
        have HN := Lib.hid (strikeW_hit (nx := nx) HXX.out HH.out)
        generalize (wrC x).toArray = csx at *
        go_wp2_with (go_at_call 89; refine HC.out.mono ?_; rintro e w3 ⟨rfl, hb3⟩; have HD3 := Lib.hid ((HD2.out.below hb3).hit HXX.out HH.out); clear hb3)
        go_roundw
        case rel => exact ⟨k + 1, by omega, by rw [HN.out, HQ.out]; omega, by go_num, by rw [HN.out, HQ.out], HD3.out⟩
        case measure => simp [intOf]; omega
      · have HC := Lib.hid (bit_any x X nx w2 HcX2.out hX2 hh)
        have HH := Lib.hid hh
        clear hh hX2
        have HN := Lib.hid (show (strikeW nx (ws.take (k + 1))).length = q + 1 by rw [strikeW_miss HXX.out HH.out, List.length_append, HQ.out]; rfl)
        obtain ⟨csx, hcsx⟩ : ∃ csx, (wrC x).toArray = csx := ⟨_, rfl⟩
        rw [hcsx] at HC HIa HO1 ⊢
        have HCS := Lib.hid hcsx
        clear hcsx
        have hqi : (q : Int) < (m : Int) := by omega
        go_wp2_with fail
        refine HC.out.mono ?_
        rintro e w3 ⟨rfl, hb3⟩
        have hd3 := HD2.out.below hb3
        have hr3 : w3.rangeAt wr.heap.size 0 (wrC x) := rangeAt_block HR2.out (hb3.block _ hs2)
        have HD4 := Lib.hid (show DelAt w (w3.setCells g (q * 341) (wrC x)) g c nx (k + 1) ws from by
          have := hd3.miss HS.out HXX.out HH.out (by rw [HQ.out]; exact hlen) hkc
          rwa [HQ.out] at this)
        have HT3 := Lib.hid (show w3.there g (q * 341) csx.size from by
          rw [← HCS.out, List.size_toArray, HLX.out]
          have := Nat.mul_le_mul_right 341 (show q + 1 ≤ c by omega)
          exact hd3.there (by omega))
        have HR3 := Lib.hid hr3
        clear hd3 hr3 hb3 HR2 HB2 HD2 HcX2
        go_wp2_with fail
        refine wp_load_mid tWt (.tmp 7) rfl wr.heap.size 0 rfl _ _ HR3.out Try.underlying106 rfl HI.out ?_
        rw [HCS.out]
        go_wp2_with (refine wpList_store_mid rfl tWt (.tmp 33) (.tmp 32) rfl g (q * 341) csx rfl rfl HT3.out HIa.out HO1.out ?_)
        go_roundw
        case rel => exact ⟨k + 1, by omega, by rw [HN.out]; omega, by go_num, by rw [HN.out]; go_num, by rw [← HCS.out]; exact HD4.out⟩
        case measure => simp [intOf]; omega
    · obtain rfl : k = m := by omega
      have hkz : decide ((k : Int) < (k : Int)) = false := decide_eq_false (by omega)
      have hkq := Nat.mul_le_mul_right 341 hmc
      have hkq2 : q * 341 + (k - q) * 341 = k * 341 := by rw [← Nat.add_mul]; congr 1; omega
      obtain ⟨cs, _, hcl⟩ := run_clear_wide (P := Try.prog) wr 108 tWt wtZ Try.underlying108 wt_zeroV (by intro v hv; exact wrC_one (0, ⟨Array.replicate 340 0⟩) v (by have hw : wtZ.cells = (wrC (0, ⟨Array.replicate 340 0⟩)).toArray := rfl; rw [hw] at hv; simpa using hv)) g (q * 341) (k - q) (c - q) (by omega) (HD.out.there (by
        rw [show wtZ.cells.size = 341 from by kernel_rfl]; omega))
      have hd5 := HD.out.wiped (cs := cs) HM.out HS.out HQ.out
      have HOW := Lib.hid (hd5.own HM.out hbg HCM.out hmc HS.out)
      have HUP := Lib.hid hd5.upd
      have HLW := Lib.hid (show (strikeW nx ws).length = q by rw [← HQ.out, List.take_of_length_le (by rw [HM.out]; omega)])
      clear hd5
      have hqk : (q : Int) < (k : Int) := by omega
      have hqc : q < c := by omega
      clear hkq hkq2
      go_wp2
      go_ret
      exact ⟨by rw [HLW.out]; rfl, HOW.out, HUP.out.mono (fun h _ e => by rw [e]; rfl)⟩
end Go.Proofs.Ytgkenknplepmeaa
