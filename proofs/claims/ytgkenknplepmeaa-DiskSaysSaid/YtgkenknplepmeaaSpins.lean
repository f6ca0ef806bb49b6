/-
  WALK: hammerpondlaw.spins.
-/
import Derived.Test.YtgkenknplepmeaaRkF
namespace Go.Proofs.Ytgkenknplepmeaa
open Go.RowKit

def xyB : ByteArray := ⟨#[120, 121]⟩
set_option maxHeartbeats 1000000 in
set_option maxRecDepth 100000 in
theorem spins_any (w : World) : Calls Try.prog 12 #[] w fun e w' => e = .returned (.bool true) ∧ Below w.heap.size w w' := by
  have HN := Lib.hid (new_good 3 w (by omega) (by omega))
  rw [show ((3 : Nat) : Int) = 3 from rfl] at HN
  have HSN := Lib.hid (fun W => same_nil W)
  have e1 : (writeX (newD 3) 1 xyB).2 = 0 := by rfl
  have s1 : ((writeX (newD 3) 1 xyB).1.left = -1) := by rfl
  have e2 : (flushR (writeX (newD 3) 1 xyB).1).2 = 0 := by rfl
  have e3 : readR (restartR 0 (flushR (writeX (newD 3) 1 xyB).1).1) 1 = (padB xyB, 0) := by rfl
  have hg1 : Go2 (writeX (newD 3) 1 xyB).1 (writeQ (newQ 3) 1 xyB).1 1 := (go2_new.write 1 xyB).2
  have hg2 : Go2 (flushR (writeX (newD 3) 1 xyB).1).1 (flushQ (writeQ (newQ 3) 1 xyB).1).1 1 := hg1.flush.2
  have n3 : (restartR 0 (flushR (writeX (newD 3) 1 xyB).1).1).n = 3 := rfl
  have hl1 := hg1.rl
  have hl2 := hg1.slen
  have hl3 := hg2.slen
  have HW := Lib.hid (fun V W (h : DkAt W w.heap.size (w.heap.size + 1) w.heap.size V (newD 3)) => writex_any w.heap.size (w.heap.size + 1) w.heap.size V (newD 3) 1 xyB W h (by decide) ⟨by show _ ≤ (-1 : Int); omega, by show (-1 : Int) ≤ _; omega⟩ (fun i hi => Nat.zero_le _))
  rw [e1] at HW
  clear hg1 hg2 e1 s1
  generalize (writeX (newD 3) 1 xyB).1 = D1 at *
  have HF := Lib.hid (fun V W (h : DkAt W w.heap.size (w.heap.size + 1) w.heap.size V D1) => flush_any w.heap.size (w.heap.size + 1) w.heap.size V D1 W h hl1 (fun i hi => by have := hl2 i hi; omega))
  rw [e2] at HF
  clear e2 hl1 hl2
  generalize (flushR D1).1 = D2 at *
  have HR := Lib.hid (fun V W (h : DkAt W w.heap.size (w.heap.size + 1) w.heap.size V D2) => restart_any w.heap.size (w.heap.size + 1) w.heap.size V D2 0 W h (by decide) (fun i hi => by have := hl3 i hi; omega))
  clear hl3
  generalize restartR 0 D2 = D3 at *
  have HRD := Lib.hid (fun V W (h : DkAt W w.heap.size (w.heap.size + 1) w.heap.size V D3) => read_any w.heap.size (w.heap.size + 1) w.heap.size V D3 1 W h)
  have HSE := Lib.hid (fun V W (h : DkAt W w.heap.size (w.heap.size + 1) w.heap.size V D3) => sectors_any w.heap.size (w.heap.size + 1) w.heap.size V D3 W h)
  rw [e3] at HRD
  rw [n3] at HSE
  clear e3 n3
  have hz : (padB xyB).size = 340 := by rfl
  rw [show erV 0 = .nilIface from rfl] at HW HF
  dsimp only at HRD
  rw [show erV 0 = .nilIface from rfl] at HRD
  unfold ptr at *
  rw [show xyB = ⟨#[120, 121]⟩ from rfl] at HW
  rw [show ((0 : Nat) : Int) = 0 from rfl] at HR
  rw [show ((3 : Nat) : Int) = 3 from rfl] at HSE
  have hx : ((padB xyB).extract 0 2).toList = [120, 121] := by
    simp only [ByteArray.toList_eq]
    decide +kernel
  go_enter Try.func12, Try.ntmps12
  go_wp2_with fail
  refine HN.out.mono ?_
  rintro e w1 ⟨rfl, hd1, hb1⟩
  have HD1 := Lib.hid hd1
  have HB1 := Lib.hid hb1
  clear hd1 hb1 HN
  go_wp2_with fail
  refine (HW.out _ _ HD1.out).mono ?_
  rintro e w2 ⟨rfl, ⟨V2, hd2⟩, hb2, -⟩
  have HD2 := Lib.hid hd2
  have HB2 := Lib.hid (HB1.out.trans hb2)
  clear hd2 hb2 HW HD1 HB1
  go_wp2_with fail
  refine (HF.out _ _ HD2.out).mono ?_
  rintro e w3 ⟨rfl, ⟨V3, hd3⟩, hb3, -⟩
  have HD3 := Lib.hid hd3
  have HB3 := Lib.hid (HB2.out.trans hb3)
  clear hd3 hb3 HF HD2 HB2
  go_wp2_with fail
  refine (HR.out _ _ HD3.out).mono ?_
  rintro e w4 ⟨rfl, ⟨V4, hd4⟩, hb4, -⟩
  have HD4 := Lib.hid hd4
  have HB4 := Lib.hid (HB3.out.trans hb4)
  clear hd4 hb4 HR HD3 HB3
  go_wp2_with fail
  refine (HRD.out _ _ HD4.out).mono ?_
  rintro e w5 ⟨rfl, hb5⟩
  have HD5 := Lib.hid (HD4.out.keep (fun g _ hg => hb5.block g hg))
  have HB5 := Lib.hid (HB4.out.trans (hb5.mono HB4.out.size))
  clear hb5 HRD HD4 HB4
  generalize padB xyB = pb at *
  go_wp2_with (first | (go_at_call 16; refine (HSN.out _).mono ?_; rintro e wq ⟨rfl, rfl⟩) | (go_at_call 17; refine (HSE.out _ _ HD5.out).mono ?_; rintro e wq ⟨rfl, rfl⟩))
  go_ret
  exact ⟨rfl, HB5.out⟩
end Go.Proofs.Ytgkenknplepmeaa
