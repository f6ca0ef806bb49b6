/-
  WALKS: package disk: Flush, Restart, Arm.
-/
import Derived.Test.YtgkenknplepmeaaDkS
namespace Go.Proofs.Ytgkenknplepmeaa
open Go.RowKit

set_option maxRecDepth 100000 in
set_option maxHeartbeats 1000000 in
theorem flush_any (base p B : Nat) (V : Nat → Value) (D : Dk) (w : World) (h : DkAt w base p B V D) (hl : -9223372036854775808 ≤ D.left ∧ D.left ≤ 9223372036854775807) (hsm : ∀ i, i < D.n → (D.sec i).ws.length ≤ 100000) :
    Calls Try.prog 22 #[ptr p] w fun e w' => e = .returned (erV (flushR D).2) ∧ (∃ V', DkAt w' base p B V' (flushR D).1) ∧ Below base w w' ∧ Ty w w' := by
  have HST := Lib.hid (step_any base p B V D w h hl)
  have hbp := h.hp
  have HDK := Lib.hid h.dk
  have hbw : base ≤ w.heap.size := Nat.le_trans h.hp (Nat.le_of_lt h.ltp)
  by_cases h0 : (stepR D).2 = 0
  · have hst1 : stepR D = ({ D with left := if 0 < D.left then D.left - 1 else D.left }, 0) := by
      unfold stepR at h0 ⊢
      split at h0
      · cases h0
      · rename_i hx; rw [if_neg hx]
    have HF := Lib.hid (show flushR D = (settleR allK (stepR D).1, 0) by unfold flushR; rw [if_neg (by simp [h0])])
    have hsm1 : ∀ i, i < (stepR D).1.n → ((stepR D).1.sec i).ws.length ≤ 100000 := by rw [hst1]; exact hsm
    rw [h0] at HST
    have HSM := Lib.hid hsm1
    clear h hst1 h0 hsm hsm1 hl
    generalize (stepR D).1 = D1 at *
    have HSET := Lib.hid (show ∀ w1, DkAt w1 base p B V D1 → Calls Try.prog 64 #[ptr p, .int .u64 18446744073709551615] w1 fun e w' => e = .returned (.tuple #[]) ∧ (∃ V', DkAt w' base p B V' (settleR allK D1)) ∧ Below base w1 w' ∧ Ty w1 w' from fun w1 h => by have := settle_any base p B V D1 allK w1 h allK_lt HSM.out; rwa [allK_int] at this)
    go_enter Try.func22, Try.ntmps22
    go_wp2_with (first | (go_at_call 61; refine HST.out.mono ?_; rintro e w1 ⟨rfl, hd1, hu1⟩; have HD1 := Lib.hid hd1; have HY1 := Lib.hid (Ty.of_upd HDK.out hu1); have HU1 := Lib.hid (hu1.below hbw (fun g e => by rw [e]; exact hbp)); clear hd1 hu1; rw [show erV 0 = .nilIface from rfl]) | (go_at_call 64; refine (HSET.out w1 HD1.out).mono ?_; rintro e w2 ⟨rfl, hd2, hb2, hy2⟩; have HD2 := Lib.hid hd2; have HB2 := Lib.hid (HU1.out.trans hb2); have HY2 := Lib.hid (HY1.out.trans hy2); clear hd2 hb2 hy2))
    go_ret
    exact ⟨by rw [HF.out]; rfl, by rw [HF.out]; exact HD2.out, HB2.out, HY2.out⟩
  · have HF := Lib.hid (show flushR D = stepR D by unfold flushR; rw [if_pos h0])
    have herr : erV (stepR D).2 = .iface 96 (.int .i64 (stepR D).2) := by unfold erV; rw [if_neg h0]
    rw [herr] at HST
    clear h h0 hsm hl
    go_enter Try.func22, Try.ntmps22
    go_wp2_with (go_at_call 61; refine HST.out.mono ?_; rintro e w1 ⟨rfl, hd1, hu1⟩; have HD1 := Lib.hid hd1; have HY1 := Lib.hid (Ty.of_upd HDK.out hu1); have HU1 := Lib.hid (hu1.below hbw (fun g e => by rw [e]; exact hbp)); clear hd1 hu1)
    go_ret
    exact ⟨by rw [HF.out, herr]; rfl, by rw [HF.out]; exact ⟨V, HD1.out⟩, HU1.out, HY1.out⟩

set_option maxRecDepth 100000 in
set_option maxHeartbeats 1000000 in
theorem restart_any (base p B : Nat) (V : Nat → Value) (D : Dk) (keep : Nat) (w : World) (h : DkAt w base p B V D) (hkp : keep < 2 ^ 64) (hsm : ∀ i, i < D.n → (D.sec i).ws.length ≤ 100000) :
    Calls Try.prog 25 #[ptr p, .int .u64 keep] w fun e w' => e = .returned (.tuple #[]) ∧ (∃ V', DkAt w' base p B V' (restartR keep D)) ∧ Below base w w' ∧ Ty w w' := by
  have HS := Lib.hid (settle_any base p B V D keep w h hkp hsm)
  have hbp := h.hp
  clear h hsm
  go_enter Try.func25, Try.ntmps25
  go_wp2_with fail
  refine HS.out.mono ?_
  rintro e w1 ⟨rfl, ⟨V1, hd1⟩, hb1, hy1⟩
  have c2 : w1.cell? ⟨p, 2, none⟩ = some (.bool D.down) := hd1.dk.cell 2
  have c1 : w1.cell? ⟨p, 1, none⟩ = some (.int .i64 D.left) := hd1.dk.cell 1
  have f1 := hd1.dk.free 1
  have f2 := hd1.dk.free 2
  have hd2 := hd1.upd D.left false 0 (by omega) (by have := hd1.dk.set 2 (.bool false); exact this) (upd_setp (i := 2) (.bool false))
  have c1' : (w1.setCell ⟨p, 2, none⟩ (.bool false)).cell? ⟨p, 1, none⟩ = some (.int .i64 D.left) := hd2.dk.cell 1
  have f1' := hd2.dk.free 1
  have hd3 := hd2.upd (-1) false 0 (by omega) (by have := hd2.dk.set 1 (.int .i64 (-1)); exact this) (upd_setp (i := 1) (.int .i64 (-1)))
  have e1 := hd1.upd (-1) D.down 0 (by omega) (by have := hd1.dk.set 1 (.int .i64 (-1)); exact this) (upd_setp (i := 1) (.int .i64 (-1)))
  have c2' : (w1.setCell ⟨p, 1, none⟩ (.int .i64 (-1))).cell? ⟨p, 2, none⟩ = some (.bool D.down) := e1.dk.cell 2
  have f2' := e1.dk.free 2
  have e2 := e1.upd (-1) false 0 (by omega) (by have := e1.dk.set 2 (.bool false); exact this) (upd_setp (i := 2) (.bool false))
  have HY3 := Lib.hid ((hy1.trans (Ty.setP (i := 2) hd1.dk (.bool false))).trans (Ty.setP (i := 1) hd2.dk (.int .i64 (-1))))
  have HY4 := Lib.hid ((hy1.trans (Ty.setP (i := 1) hd1.dk (.int .i64 (-1)))).trans (Ty.setP (i := 2) e1.dk (.bool false)))
  have HD3 := Lib.hid hd3
  have HE2 := Lib.hid e2
  have HB3 := Lib.hid ((hb1.setCell (p := ⟨p, 2, none⟩) (by simpa using hbp) (.bool false)).setCell (p := ⟨p, 1, none⟩) (by simpa using hbp) (.int .i64 (-1)))
  have HB4 := Lib.hid ((hb1.setCell (p := ⟨p, 1, none⟩) (by simpa using hbp) (.int .i64 (-1))).setCell (p := ⟨p, 2, none⟩) (by simpa using hbp) (.bool false))
  clear hd1 hb1 hd2 hd3 e1 e2 hy1
  go_wp2
  go_end0
  first | exact ⟨rfl, ⟨V1, HD3.out⟩, HB3.out, HY3.out⟩ | exact ⟨rfl, ⟨V1, HE2.out⟩, HB4.out, HY4.out⟩
end Go.Proofs.Ytgkenknplepmeaa
