/-
  WALK: hammerpondlaw.logs; log.Open as LogSays and TopLog use it.
-/
import Derived.Test.YtgkenknplepmeaaLgQ
namespace Go.Proofs.Ytgkenknplepmeaa
open Go.RowKit Go.Sort

theorem open_kp (b0 base p B fr mn fi : Nat) (V : Nat → Value) (D : Dk) (w : World) (hd : DkAt w base p B V D) (hdn : D.down = false) (hfr : fr + mn ≤ D.n) (hmn : 1 ≤ mn) (hf1 : 1 ≤ fi) (hfi : fi ≤ 1000000000000) {es : List (List Ch)} {u : Nat} (hrd : rdR (nowF D fr) fi mn 0 [] [] 0 = (es, u)) :
    Calls Try.prog 41 #[ptr p, .int .i64 fr, .int .i64 mn, .int .i64 fi] w fun e w' => ∃ A c, e = .returned (.tuple #[ptr w.heap.size, .slice A es.length c, .nilIface]) ∧ KpE w' b0 A es.length c es ∧ Blk w' w.heap.size tLog #[ptr p, .int .i64 fr, .int .i64 mn, .int .i64 fi, .int .i64 u] ∧ Below w.heap.size w w' := by
  refine (open_good base p B fr mn fi V D w hd hdn hfr hmn hf1 hfi).mono ?_
  rintro e w' ⟨v, v5, cs, rfl, hst⟩
  rw [show (fun i => nowB (D.sec (fr + i))) = nowF D fr from rfl, hrd] at hst
  obtain ⟨A, c, rfl, hk⟩ := kpE_of_lgst b0 hst
  refine ⟨A, c, rfl, hk, hst.log, hst.upd.os, hst.upd.tape, hst.upd.output, ?_, fun k hk => ?_⟩
  · have := hst.upd.size
    simp at this
    omega
  · rw [hst.upd.block k (by simp; omega) (by omega)]
    exact Below.heap_alloc _ _ _ hk
theorem rdC_one (w : World) (c : Ch) (t : TypeId) : RdC (w.alloc (.cells #[.string c.key, .string c.val, .bool c.gone] t)) (w.alloc (.cells #[.string c.key, .string c.val, .bool c.gone] t)).heap.size (some ⟨w.heap.size, 0, none⟩) 1 1 [c] := by
  refine ⟨rfl, Nat.le_refl _, by unfold maxLen; omega, fun _ => ⟨w.heap.size, 0, rfl, by simp, fun i f hi => ?_⟩⟩
  have hb := Blk.new w t #[.string c.key, .string c.val, .bool c.gone]
  cases i with
  | zero =>
    obtain rfl : c = f := by simpa using hi
    exact ⟨hb.cell 0, hb.cell 1, hb.cell 2⟩
  | succ i => simp at hi
theorem ck_fax : ckR ⟨⟨#[102, 47, 97]⟩, ⟨#[120]⟩, false⟩ = 0 := by
  unfold ckR keyB preB
  simp only [ByteArray.toList_eq]
  decide +kernel
set_option maxHeartbeats 1000000 in
set_option maxRecDepth 100000 in
theorem logs_any (w : World) : Calls Try.prog 40 #[] w fun e w' => e = .returned (.bool true) ∧ Below w.heap.size w w' := by
  have HN := Lib.hid (new_good 8 w (by omega) (by omega))
  rw [show ((8 : Nat) : Int) = 8 from rfl] at HN
  have HSN := Lib.hid (fun W => same_erV 0 (.inl rfl) W)
  rw [show erV 0 = .nilIface from rfl] at HSN
  unfold ptr at *
  go_enter Try.func40, Try.ntmps40
  go_wp2_with fail
  refine HN.out.mono ?_
  rintro e w1 ⟨rfl, hd1, hb1⟩
  have HD1 := Lib.hid hd1
  have HB1 := Lib.hid hb1
  have HO := Lib.hid (open_kp w.heap.size w.heap.size (w.heap.size + 1) w.heap.size 2 6 1 _ (newD 8) w1 hd1 rfl (by show 2 + 6 ≤ 8; omega) (by omega) (by omega) (by omega) (new_read 8 2 1 6))
  rw [show ((2 : Nat) : Int) = 2 from rfl, show ((6 : Nat) : Int) = 6 from rfl, show ((1 : Nat) : Int) = 1 from rfl] at HO
  unfold ptr at HO
  clear hd1 hb1 HN
  go_wp2_with fail
  refine HO.out.mono ?_
  rintro e w2 ⟨A2, c2, rfl, -, hl2, hb2⟩
  have HD2 := Lib.hid (HD1.out.keep fun _ _ hk => hb2.block _ hk)
  have HB2 := Lib.hid (HB1.out.trans (hb2.mono HB1.out.size))
  have HL2 := Lib.hid hl2
  have hs1 := HB1.out.size
  have hw1 : w.heap.size + 1 < w1.heap.size := HD1.out.ltp
  clear hl2 hb2 HO HD1 HB1
  have hb3 : Below w2.heap.size w2 (w2.alloc (.cells #[.string ⟨#[102, 47, 97]⟩, .string ⟨#[120]⟩, .bool false] tCh)) := (Below.refl _ _).alloc (Nat.le_refl _) _
  have HA := Lib.hid (logAdd_any w1.heap.size w.heap.size (w.heap.size + 1) w.heap.size 2 6 1 0 (some ⟨w2.heap.size, 0, none⟩) 1 1 [⟨⟨#[102, 47, 97]⟩, ⟨#[120]⟩, false⟩] _ (newD 8) (w2.alloc (.cells #[.string ⟨#[102, 47, 97]⟩, .string ⟨#[120]⟩, .bool false] tCh)) (HL2.out.alloc _) (HD2.out.keep fun _ _ hk => hb3.block _ hk) (rdC_one w2 ⟨⟨#[102, 47, 97]⟩, ⟨#[120]⟩, false⟩ tCh) (fun f hf => by
    obtain rfl : f = ⟨⟨#[102, 47, 97]⟩, ⟨#[120]⟩, false⟩ := by simpa using hf
    exact ⟨by show 3 ≤ 20; omega, by show 1 ≤ 400; omega⟩) (by omega) (by show 2 + 6 ≤ 8; omega) (by omega) (by omega) (new_wok 8 1 (by omega)) (by omega))
  have HB3 := Lib.hid (HB2.out.trans (hb3.mono HB2.out.size))
  unfold LaPost ptr at HA
  clear hb3
  go_wp2_with fail
  refine HA.out.mono ?_
  rintro e w3 ⟨er, D', u', rfl, hla, -, hl3, hb3, -⟩
  obtain ⟨rfl, rfl⟩ : er = 0 ∧ u' = 2 := by
    rcases hla.good (es := []) (new_goodD 8) (new_wok 8 1 (by omega)) (by show 2 + 6 ≤ 8; omega) (new_read 8 2 1 6) with ⟨h, _⟩ | ⟨h1, _, h2, _⟩
    · exact absurd ⟨by show 1 ≤ 40; omega, by show 0 + 1 + 1 ≤ 6; omega, fun c hc => by
        obtain rfl : c = ⟨⟨#[102, 47, 97]⟩, ⟨#[120]⟩, false⟩ := by simpa using hc
        exact ck_fax⟩ h.not
    · exact ⟨h1, h2⟩
  have HB4 := Lib.hid (HB3.out.trans hb3)
  have HRM := Lib.hid (room_any w1.heap.size (w.heap.size + 1) 2 6 1 2 w3 hl3 (by omega) (by omega))
  have HNX := Lib.hid (fun q => next_any w1.heap.size (w.heap.size + 1) 2 6 1 2 (w3.drewN q) hl3 (by omega) (by omega))
  unfold ptr at HRM HNX
  clear hl3 hla hb3 HA
  rw [show erV 0 = .nilIface from rfl]
  go_wp2_with fail
  refine (HSN.out _).mono ?_
  rintro e w4 ⟨rfl, rfl⟩
  go_wp2_with fail
  refine HRM.out.mono ?_
  rintro e w4 ⟨rfl, q, rfl⟩
  go_wp2_with fail
  refine (HNX.out _).mono ?_
  rintro e w4 ⟨rfl, q', rfl⟩
  go_wp2
  go_ret
  exact ⟨rfl, below_drewN HB4.out (q + q')⟩
end Go.Proofs.Ytgkenknplepmeaa
