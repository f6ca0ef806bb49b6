/-
  WALK: hammerpondlaw.records: the closed fact.
-/
import Derived.Test.YtpghfefiifhbiaaGreatDoorRcX
import Derived.Test.YtpghfefiifhbiaaGreatDoorRcS
import Derived.Test.YtpghfefiifhbiaaGreatDoorRcL
import Derived.Test.YtpghfefiifhbiaaGreatDoorErr
import Derived.Test.YtpghfefiifhbiaaGreatDoorRcG
namespace Go.Proofs.YtpghfefiifhbiaaGreatDoor
open Go.RowKit Go.Sort

theorem nameB_sp {s : ByteArray} (h : nameB s = true) : (32 : UInt8) ∉ s.data.toList := by
  intro hm
  obtain ⟨k, hk, e⟩ := List.mem_iff_getElem.1 hm
  have hk' : k < s.size := by simpa using hk
  have e' : s[k] = 32 := by
    have : s[k] = s.data.toList[k] := rfl
    rw [this, e]
  have hb : chB k (s[k].toNat : Int) = false := by
    rw [e']
    unfold chB letB digB
    have : ((32 : UInt8).toNat : Int) = 32 := rfl
    rw [this]
    simp
  rw [nameB_bad hk' hb] at h
  cases h
def TuP (w : World) (e : Ending) (w' : World) : Prop := e = .returned (.bool true) ∧ Below w.heap.size w w'
theorem recL_turn : recL ([⟨#[116, 117, 114, 110, 32, 97]⟩], [], [(⟨#[98]⟩, ⟨#[120, 121]⟩)]) = [49, 32, 48, 32, 49, 32, 54, 58, 116, 117, 114, 110, 32, 97, 32, 98, 32, 50, 58, 120, 121] := by
  have e1 : numL 1 = [49] := numL_small (by omega)
  have e0 : numL 0 = [48] := numL_small (by omega)
  have e6 : numL 6 = [54] := numL_small (by omega)
  have e2 : numL 2 = [50] := numL_small (by omega)
  unfold recL hdL
  simp only [List.length_cons, List.length_nil, List.flatMap_cons, List.flatMap_nil, txL, flL]
  rw [show (0 + 1) = 1 from rfl, show (⟨#[116, 117, 114, 110, 32, 97]⟩ : ByteArray).size = 6 from rfl, show (⟨#[120, 121]⟩ : ByteArray).size = 2 from rfl, e0, e1, e6, e2]
  rfl
theorem recL_fail2 : ba (recL ([⟨#[102, 97, 105, 108]⟩], [], [(⟨#[98]⟩, ⟨#[120]⟩)])) = ⟨#[49, 32, 48, 32, 49, 32, 52, 58, 102, 97, 105, 108, 32, 98, 32, 49, 58, 120]⟩ := by
  have e1 : numL 1 = [49] := numL_small (by omega)
  have e0 : numL 0 = [48] := numL_small (by omega)
  have e4 : numL 4 = [52] := numL_small (by omega)
  have e : recL ([⟨#[102, 97, 105, 108]⟩], [], [(⟨#[98]⟩, ⟨#[120]⟩)]) = [49, 32, 48, 32, 49, 32, 52, 58, 102, 97, 105, 108, 32, 98, 32, 49, 58, 120] := by
    unfold recL hdL
    simp only [List.length_cons, List.length_nil, List.flatMap_cons, List.flatMap_nil, txL, flL]
    rw [show (0 + 1) = 1 from rfl, show (⟨#[102, 97, 105, 108]⟩ : ByteArray).size = 4 from rfl, show (⟨#[120]⟩ : ByteArray).size = 1 from rfl, e0, e1, e4]
    rfl
  rw [e]; rfl
theorem rec_turn : recO nameB [49, 32, 48, 32, 49, 32, 54, 58, 116, 117, 114, 110, 32, 97, 32, 98, 32, 50, 58, 120, 121] = some ([⟨#[116, 117, 114, 110, 32, 97]⟩], [], [(⟨#[98]⟩, ⟨#[120, 121]⟩)]) := by
  rw [← recL_turn]
  have hn : nameB ⟨#[98]⟩ = true := by decide
  refine rec_read nameB _ ⟨by decide, by decide, by decide, fun s hs => ?_, fun f hf => ?_⟩
  · simp at hs; subst hs; decide
  · simp at hf; subst hf; exact ⟨by decide, hn, nameB_sp hn⟩
set_option maxRecDepth 100000 in
set_option maxHeartbeats 16000000 in
theorem records_any (w : World) (hE : Env w) : Calls Tryz.prog 4 #[] w (TuP w) := by
  have HPA : Hid (Calls Tryz.prog 14 #[.string ⟨#[49, 32, 48, 32, 49, 32, 54, 58, 116, 117, 114, 110, 32, 97, 32, 98, 32, 50, 58, 120, 121]⟩] w (PaP [49, 32, 48, 32, 49, 32, 54, 58, 116, 117, 114, 110, 32, 97, 32, 98, 32, 50, 58, 120, 121] w)) := Lib.hid (parse_any ⟨#[49, 32, 48, 32, 49, 32, 54, 58, 116, 117, 114, 110, 32, 97, 32, 98, 32, 50, 58, 120, 121]⟩ w hE (by decide))
  have HE := Lib.hid hE
  clear hE
  go_enter Tryz.func4, Tryz.ntmps4
  go_wp2_with fail
  refine HPA.out.mono ?_
  rintro e w1 ⟨hb1, B0, m0, e0, B1, m1, e1, B2, m2, e2, rfl, r0, r1, r2⟩
  rw [rec_turn] at r0 r1 r2
  have herr : errV (recN (recO nameB [49, 32, 48, 32, 49, 32, 54, 58, 116, 117, 114, 110, 32, 97, 32, 98, 32, 50, 58, 120, 121])) = errV 0 := by rw [rec_turn]; rfl
  rw [herr]
  have R0 := Lib.hid (show RdS w1 w1.heap.size B0 m0 e0 [⟨#[116, 117, 114, 110, 32, 97]⟩] from r0)
  have R2 := Lib.hid (show RdF w1 w1.heap.size B2 m2 e2 [(⟨#[98]⟩, ⟨#[120, 121]⟩)] from r2)
  obtain rfl : m0 = 1 := R0.out.1.symm
  obtain rfl : m2 = 1 := R2.out.1.symm
  have HB1 := Lib.hid hb1
  clear hb1 r0 r1 r2 herr HPA
  -- the record's variable and the literals
  have hb2 : Below w1.heap.size w1 (w1.alloc (.cells #[.slice B0 1 e0, .slice B1 m1 e1, .slice B2 1 e2] tRec)) := (Below.refl _ w1).alloc (Nat.le_refl _) _
  have p2 := Blk.new w1 tRec #[.slice B0 1 e0, .slice B1 m1 e1, .slice B2 1 e2]
  have hs2 : (w1.alloc (.cells #[.slice B0 1 e0, .slice B1 m1 e1, .slice B2 1 e2] tRec)).heap.size = w1.heap.size + 1 := by simp
  obtain ⟨W2, hW2⟩ : ∃ W2, W2 = w1.alloc (.cells #[.slice B0 1 e0, .slice B1 m1 e1, .slice B2 1 e2] tRec) := ⟨_, rfl⟩
  rw [← hW2] at hb2 p2 hs2
  have p3 := Blk.new W2 tStr #[.string ⟨#[102, 97, 105, 108]⟩]
  have hb3 : Below W2.heap.size W2 ((W2.alloc (.cells #[.string ⟨#[102, 97, 105, 108]⟩] tStr)).alloc (.cells #[.string ⟨#[98]⟩, .string ⟨#[120]⟩] tFi)) := ((Below.refl _ W2).alloc (Nat.le_refl _) _).alloc (by simp) _
  have p4 := p3.alloc (.cells #[.string ⟨#[98]⟩, .string ⟨#[120]⟩] tFi)
  have f4 := RdF_1 (W2.alloc (.cells #[.string ⟨#[102, 97, 105, 108]⟩] tStr)) ⟨#[98]⟩ ⟨#[120]⟩ tFi
  have hs3 : (W2.alloc (.cells #[.string ⟨#[102, 97, 105, 108]⟩] tStr)).heap.size = W2.heap.size + 1 := by simp
  have hs4 : ((W2.alloc (.cells #[.string ⟨#[102, 97, 105, 108]⟩] tStr)).alloc (.cells #[.string ⟨#[98]⟩, .string ⟨#[120]⟩] tFi)).heap.size = W2.heap.size + 1 + 1 := by simp
  rw [hs3] at f4
  obtain ⟨W4, hW4⟩ : ∃ W4, W4 = (W2.alloc (.cells #[.string ⟨#[102, 97, 105, 108]⟩] tStr)).alloc (.cells #[.string ⟨#[98]⟩, .string ⟨#[120]⟩] tFi) := ⟨_, rfl⟩
  rw [← hW4] at hb3 p4 f4 hs4
  have hfs : RdS W4 W4.heap.size (some ⟨W2.heap.size, 0, none⟩) 1 1 [⟨#[102, 97, 105, 108]⟩] := ⟨rfl, Nat.le_refl _, by unfold maxLen; omega, fun _ => ⟨W2.heap.size, 0, rfl, by omega, fun j u hu => by
    match j with
    | 0 => simp at hu; subst hu; exact p4.cell 0
    | j + 1 => simp at hu⟩⟩
  have hbw := (HB1.out.trans (hb2.mono HB1.out.size))
  have hbw4 := hbw.trans (hb3.mono hbw.size)
  have HT := Lib.hid (text_any (some ⟨W2.heap.size, 0, none⟩) none (some ⟨W2.heap.size + 1, 0, none⟩) 1 1 0 0 1 1 [⟨#[102, 97, 105, 108]⟩] [] [(⟨#[98]⟩, ⟨#[120]⟩)] W4 (HE.out.below hbw4) hfs (RdF.nil _ _) (f4.more (by omega)) ⟨by simp, fun s hs => by simp at hs; subst hs; decide⟩ ⟨by simp, by simp⟩ ⟨by simp, fun f hf => by simp at hf; subst hf; exact ⟨by decide, by decide⟩⟩)
  rw [recL_fail2, hs2] at HT
  have p24 : Blk W4 w1.heap.size tRec #[.slice B0 1 e0, .slice B1 m1 e1, .slice B2 1 e2] := (hb3.block _ p2.lt).trans p2
  have P24 := Lib.hid p24
  have HBW4 := Lib.hid hbw4
  have HB24 := Lib.hid (hb2.trans (hb3.mono hb2.size))
  have HW2 := Lib.hid hW2
  have HW4 := Lib.hid hW4
  have HS2 := Lib.hid hs2
  clear hb2 p2 hW2 p3 hb3 p4 f4 hs3 hW4 hfs hbw hbw4 p24 hs2 hs4
  go_wp2_with fail
  rw [← HW2.out]
  rw [← HW4.out]
  refine HT.out.mono ?_
  rintro e w5 ⟨rfl, hb5⟩
  have HB5 := Lib.hid (HBW4.out.trans (hb5.mono HBW4.out.size))
  have hb15 := HB24.out.trans (hb5.mono HB24.out.size)
  have p5 : Blk w5 w1.heap.size tRec #[.slice B0 1 e0, .slice B1 m1 e1, .slice B2 1 e2] := (hb5.block _ P24.out.lt).trans P24.out
  have r05 := R0.out.belowS hb15
  obtain ⟨bz, oz, rfl, hbz, hc1, hc2⟩ := R2.out.at_ (i := 0) rfl
  have hc2' := (hb15.cell (p := ⟨bz, oz + 0 * 2 + 1, none⟩) hbz).trans hc2
  have y0 : w5.cell? ⟨w1.heap.size, 0, none⟩ = some (.slice B0 1 e0) := p5.cell 0
  have hb6 : Below w5.heap.size w5 (w5.alloc (.cells #[.string ⟨#[116, 117, 114, 110, 32, 97]⟩] tStr)) := (Below.refl _ w5).alloc (Nat.le_refl _) _
  have p6 := Blk.new w5 tStr #[.string ⟨#[116, 117, 114, 110, 32, 97]⟩]
  have hs6 : (w5.alloc (.cells #[.string ⟨#[116, 117, 114, 110, 32, 97]⟩] tStr)).heap.size = w5.heap.size + 1 := by simp
  have hft : RdS (w5.alloc (.cells #[.string ⟨#[116, 117, 114, 110, 32, 97]⟩] tStr)) (w5.heap.size + 1) (some ⟨w5.heap.size, 0, none⟩) 1 1 [⟨#[116, 117, 114, 110, 32, 97]⟩] := ⟨rfl, Nat.le_refl _, by unfold maxLen; omega, fun _ => ⟨w5.heap.size, 0, rfl, by omega, fun j u hu => by
    match j with
    | 0 => simp at hu; subst hu; exact p6.cell 0
    | j + 1 => simp at hu⟩⟩
  have HST := Lib.hid (sameT_gen _ _ _ _ _ _ _ _ _ _ _ (r05.belowS hb6) hft true (by simp))
  have HC2 : Hid ((w5.alloc (.cells #[.string ⟨#[116, 117, 114, 110, 32, 97]⟩] tStr)).cell? ⟨bz, oz + 1, none⟩ = some (.string ⟨#[120, 121]⟩)) := Lib.hid (by
    have := (hb6.cell (p := ⟨bz, oz + 0 * 2 + 1, none⟩) (Nat.lt_of_lt_of_le hbz hb15.size)).trans hc2'
    simpa using this)
  have HY2 : Hid ((w5.alloc (.cells #[.string ⟨#[116, 117, 114, 110, 32, 97]⟩] tStr)).cell? ⟨w1.heap.size, 2, none⟩ = some (.slice (some ⟨bz, oz, none⟩) 1 e2)) := Lib.hid ((p5.alloc (.cells #[.string ⟨#[116, 117, 114, 110, 32, 97]⟩] tStr)).cell 2)
  have HB6 := Lib.hid (HB5.out.trans (hb6.mono HB5.out.size))
  clear hb5 hb15 p5 r05 hbz hc1 hc2 hc2' hb6 p6 hs6 hft HT P24 HBW4 HB24 HW2 HW4 HS2 R0 R2
  go_wp2_with fail
  refine (same_errV 0 (by omega) _).mono ?_
  rintro e w9 ⟨rfl, rfl⟩
  go_wp2_with fail
  refine HST.out.mono ?_
  rintro e w7 ⟨rfl, q, rfl⟩
  have HB7 := Lib.hid (HB6.out.trans ((below_drews' _ q).mono HB6.out.size))
  have y2 : ((w5.alloc (.cells #[.string ⟨#[116, 117, 114, 110, 32, 97]⟩] tStr)).drewN q).cell? ⟨w1.heap.size, 2, none⟩ = some (.slice (some ⟨bz, oz, none⟩) 1 e2) := HY2.out
  have y3 : ((w5.alloc (.cells #[.string ⟨#[116, 117, 114, 110, 32, 97]⟩] tStr)).drewN q).cell? ⟨bz, oz + 1, none⟩ = some (.string ⟨#[120, 121]⟩) := HC2.out
  clear HST y0 HY2 HC2 HB6
  generalize (w5.alloc (.cells #[.string ⟨#[116, 117, 114, 110, 32, 97]⟩] tStr)).drewN q = w8 at *
  go_wp2
  go_ret
  exact ⟨rfl, HB7.out⟩
end Go.Proofs.YtpghfefiifhbiaaGreatDoor
