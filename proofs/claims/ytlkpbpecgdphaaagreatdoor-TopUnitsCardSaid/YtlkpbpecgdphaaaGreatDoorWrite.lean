/-
  WALK: strings.genericReplacer.WriteString over the replacer of expand.Auto.
-/
import Derived.Test.YtlkpbpecgdphaaaGreatDoorAutoW
namespace Go.Proofs.YtlkpbpecgdphaaaGreatDoor
open Go.RowKit

theorem RepOk.below {w w' : World} {B G : Nat} {v0 v1 v2 v3 : ByteArray} (h : RepOk w G v0 v1 v2 v3) (hb : Below B w w') (hG : G + 8 ≤ B) : RepOk w' G v0 v1 v2 v3 := h.keep (fun k _ h2 => hb.block k (by omega))
theorem _root_.Go.RowKit.Below.trans_drewN {B : Nat} {w w' : World} (h : Below B w w') (n : Nat) : Below B w (w'.drewN n) := ⟨h.os, h.tape, h.output, h.size, h.block⟩
def WwRel (B a : Nat) (v0 v1 v2 v3 s : ByteArray) (w : World) (x6 x7 x9 x10 x11 x12 : Value) (wr : World) : Prop :=
  ∃ (k l : Nat) (t : ByteArray), (∃ z : Int, x6 = .int .i64 z) ∧ x7 = .nilIface ∧ x9 = .int .i64 l ∧ (∃ z : Int, x10 = .int .i64 z) ∧ x11 = .bool false ∧ x12 = .int .i64 k ∧ AInv v0 v1 v2 v3 s.data.toList t.data.toList l k ∧ WrAt wr B a t ∧ Below B w wr
def WsPost (B a : Nat) (v0 v1 v2 v3 s : ByteArray) (w : World) (e : Ending) (w' : World) : Prop :=
  ∃ (z : Int) (t : ByteArray), e = .returned (.tuple #[.int .i64 z, .nilIface]) ∧ t.data.toList = autoL v0 v1 v2 v3 s.data.toList ∧ WrAt w' B a t ∧ Below B w w'

theorem nil_ahead (a : Addr) (w : World) : (nilAhead 435 323 (.pointer (some a)) "WriteString").run Tryz.prog w = .ok (some false) w := by kernel_rfl
theorem method_write (a : Addr) (w : World) : (method 435 323 (.pointer (some a)) "WriteString").run Tryz.prog w = .ok (261, .pointer (some a)) w := by kernel_rfl
set_option maxRecDepth 100000 in
set_option maxHeartbeats 3200000 in
theorem write_any (G B a : Nat) (v0 v1 v2 v3 s : ByteArray) (w : World) (h : RepOk w G v0 v1 v2 v3) (hs : s.size ≤ 1000000) (hG : G + 8 ≤ B) (hB : B ≤ w.heap.size) (hw : WrAt w B a ⟨#[]⟩)
    (hL : (autoL v0 v1 v2 v3 s.data.toList).length ≤ 1000000000) :
    Calls Tryz.prog 252 #[ptr G, .iface 323 (ptr a), .string s] w (WsPost B a v0 v1 v2 v3 s w) := by
  have HR := Lib.hid h
  have HW := Lib.hid hw
  clear h hw
  have hna := nil_ahead
  have hme := method_write
  go_enter Tryz.func252, Tryz.ntmps252
  go_wp2_with (go_at_call 253; refine (getw_any a _).mono ?_; rintro e w' ⟨rfl, rfl⟩)
  go_loopw [6, 7, 9, 10, 11, 12] (fun x6 x7 x9 x10 x11 x12 wr => WwRel B a v0 v1 v2 v3 s w x6 x7 x9 x10 x11 x12 wr) (fun _ _ _ _ _ i _ => s.size + 2 - (intOf i).toNat)
  case atStart => exact ⟨0, 0, ⟨#[]⟩, ⟨_, rfl⟩, rfl, rfl, ⟨_, rfl⟩, rfl, rfl, AInv.start _, HW.out, Below.refl _ _⟩
  case round =>
    obtain ⟨k, l, t, ⟨z6, rfl⟩, rfl, rfl, ⟨z10, rfl⟩, rfl, rfl, hin, hwr, hbl⟩ := hrel
    have HQ := Lib.hid (HR.out.below hbl hG)
    have HI := Lib.hid hin
    have HT := Lib.hid hwr
    have HL := Lib.hid hbl
    have hBr : B ≤ wr.heap.size := Nat.le_trans hB hbl.size
    have hlk := hin.lk
    have hls : l ≤ s.size := hin.ls
    have hks : k ≤ s.size + 1 := hin.ks
    clear hin hwr hbl
    have c1 : wr.cell? ⟨G, 1, none⟩ = some (.int .i64 0) := (HQ.out.gen.cell 1).trans (gC_1 _ _ _)
    have c4 : wr.cell? ⟨G, 4, none⟩ = some (tab (G + 1)) := (HQ.out.gen.cell 4).trans (gC_4 _ _ _)
    have c5 : wr.cell? ⟨G, 5, none⟩ = some (.int .i64 5) := (HQ.out.gen.cell 5).trans (gC_5 _ _ _)
    by_cases hk : k < s.size
    · have hcm := HQ.out.map s[k].toNat s[k].toNat_lt
      by_cases h36 : s[k] = 36
      · have hdl : (s.extract k s.size).data.toList = s.data.toList.drop k := Lib.extract_to_end s k
        have hlr := lookR_eq v0 v1 v2 v3 (s.extract k s.size)
        rw [hdl] at hlr
        have HLK := Lib.hid (fun q => lookup_any G v0 v1 v2 v3 (s.extract k s.size) (wr.drewN q) (HQ.out.drewN q) (by unfold maxLen; simp; omega) (fun h => by simp [ByteArray.getElem_extract]; exact h36))
        have ec : s[k].toNat = 36 := by rw [h36]; rfl
        have cm : wr.cell? ⟨G, 42, none⟩ = some (.int .u8 0) := by rw [ec, mp5_36.1] at hcm; exact hcm
        have t0 : wr.cell? ⟨G + 1, 0, none⟩ = some (ptr (G + 2)) := HQ.out.t0.cell 0
        have hne : ((k : Int) != (s.size : Int)) = true := by simp; omega
        clear hcm h36 hdl
        cases hv : look2 v0 v1 v2 v3 (s.data.toList.drop k) with
        | none =>
          have HNX := Lib.hid (HI.out.skip (by simpa using hk) hv)
          have HLR := Lib.hid (hlr.trans hv)
          clear hv hlr
          go_wp2_with fail
          go_quiet (fail)
          go_wp2_with (go_at_call 254; refine (HLK.out _).mono ?_; rintro e w' ⟨rfl, q, rfl⟩; rw [HLR.out]; simp only [lookV])
          go_roundw
          case rel => exact ⟨k + 1, l, t, ⟨_, rfl⟩, rfl, rfl, ⟨_, rfl⟩, rfl, by go_num, HNX.out, HT.out.drewN (nq + q), HL.out.trans_drewN (nq + q)⟩
          case measure => simp [intOf]; omega
        | some v =>
          have HNX := Lib.hid (HI.out.hit hv).1
          have hk2 : k + 2 ≤ s.size := by have := (HI.out.hit hv).2; simpa using this
          have HLR := Lib.hid (hlr.trans hv)
          have hl1 := HNX.out.len
          simp at hl1
          have hl2 : t.size + (k - l) + v.size ≤ 1000000000 := by have e1 : t.data.toList.length = t.size := by simp
                                                                  have e2 : v.data.toList.length = v.size := by simp
                                                                  simp at e1 e2; omega
          clear hv hlr hl1
          go_wp2_with fail
          go_quiet (fail)
          go_wp2_with (go_at_call 254; refine (HLK.out _).mono ?_; rintro e w' ⟨rfl, q, rfl⟩; rw [HLR.out]; simp only [lookV])
          have HT3 := Lib.hid (HT.out.drewN (nq + q))
          have HL3 := Lib.hid (HL.out.trans_drewN (nq + q))
          have hB3 : B ≤ (wr.drewN (nq + q)).heap.size := hBr
          generalize wr.drewN (nq + q) = w3 at *
          clear HLK HLR HQ HT HL c1 c4 c5 cm t0
          have hex : (s.extract l k).size = k - l := by simp; omega
          have HX := Lib.hid hex
          clear hex
          have HS := Lib.hid (wrs_any B a t (s.extract l k) w3.drew (HT3.out.drewN 1) (by rw [HX.out]; omega) hB3)
          go_region_with (first | (go_at_call 261; refine HS.out.mono ?_; rintro e w4 ⟨rfl, h4, h5⟩; have H4 := Lib.hid h4; have HL4 := Lib.hid ((HL3.out.trans_drewN 1).trans h5); have hB4 : B ≤ w4.heap.size := Nat.le_trans hB3 h5.size; clear h4 h5))
          all_goals (go_wp2_with (go_at_call 261; refine (wrs_any B a (t ++ s.extract l k) v w4 H4.out (by rw [ByteArray.size_append, HX.out]; omega) hB4).mono ?_; rintro e w5 ⟨rfl, h6, h7⟩; have H6 := Lib.hid h6; have HL6 := Lib.hid (HL4.out.trans h7); clear h6 h7))
          all_goals go_roundw
          case rel => exact ⟨k + 2, k + 2, t ++ s.extract l k ++ v, ⟨_, rfl⟩, rfl, by go_num, ⟨_, rfl⟩, rfl, by go_num, by rw [data_append, data_append, Lib.extract_data]; exact HNX.out, H6.out, HL6.out⟩
          case measure => simp [intOf]; omega
      · have hno : look2 v0 v1 v2 v3 (s.data.toList.drop k) = none := by
          rw [List.drop_eq_getElem_cons (by simpa using hk)]
          unfold look2
          split
          · rename_i heq
            injection heq with e1 e2
            rw [if_neg]
            rw [← e1]
            exact h36
          · rfl
        have HNX := Lib.hid (HI.out.skip (by simpa using hk) hno)
        have hk3 := s[k].toNat_lt
        obtain ⟨m, hm, hm5, hm0, _⟩ := mp5_lt s[k].toNat hk3
        have hmne : m ≠ 0 := fun e => h36 (UInt8.toNat_inj.1 (hm0 e))
        rw [hm] at hcm
        obtain ⟨c, ec⟩ : ∃ c, s[k].toNat = c := ⟨_, rfl⟩
        rw [ec] at hcm hk3
        have hc2 : (c : Int) < 256 := by omega
        have hne : ((k : Int) != (s.size : Int)) = true := by simp; omega
        by_cases h5 : m = 5
        · subst h5
          go_wp2_with fail
          go_quiet (fail)
          go_wp2
          go_roundw
          case rel => exact ⟨k + 1, l, t, ⟨_, rfl⟩, rfl, rfl, ⟨_, rfl⟩, rfl, by go_num, HNX.out, HT.out.drewN nq, HL.out.trans_drewN nq⟩
          case measure => simp [intOf]; omega
        · have tm : wr.cell? ⟨G + 1, m, none⟩ = some noP := by
            rw [HQ.out.t0.cell m]
            rcases m with _ | _ | _ | _ | _ | m
            · omega
            · rfl
            · rfl
            · rfl
            · rfl
            · omega
          have hm6 : ((m : Int) == 5) = false := by rw [beq_eq_false_iff_ne]; omega
          have hm2 : (m : Int) < 5 := by omega
          clear hmne h5
          go_wp2_with fail
          go_quiet (fail)
          go_wp2
          go_roundw
          case rel => exact ⟨k + 1, l, t, ⟨_, rfl⟩, rfl, rfl, ⟨_, rfl⟩, rfl, by go_num, HNX.out, HT.out.drewN nq, HL.out.trans_drewN nq⟩
          case measure => simp [intOf]; omega
    · by_cases hk2 : k = s.size
      · have hne : ((k : Int) != (s.size : Int)) = false := by simp [hk2]
        have HNX := Lib.hid (HI.out.last (by simpa using hk2))
        have HLK := Lib.hid (lookup_any G v0 v1 v2 v3 (s.extract k s.size) wr HQ.out (by unfold maxLen; simp; omega) (fun h => by simp at h; omega))
        have hlr : lookR v0 v1 v2 v3 (s.extract k s.size) = none := lookR_none_of (by simp; omega)
        have HLR := Lib.hid hlr
        clear hlr hk2
        go_wp2_with (go_at_call 254; refine HLK.out.mono ?_; rintro e w' ⟨rfl, q, rfl⟩; rw [HLR.out]; simp only [lookV])
        go_roundw
        case rel => exact ⟨k + 1, l, t, ⟨_, rfl⟩, rfl, rfl, ⟨_, rfl⟩, rfl, by go_num, HNX.out, HT.out.drewN q, HL.out.trans_drewN q⟩
        case measure => simp [intOf]; omega
      · have hks' : k = s.size + 1 := by omega
        have hfin := HI.out
        rw [show k = s.data.toList.length + 1 by simpa using hks'] at hfin
        have HF := Lib.hid hfin.fin
        clear hks' hfin
        by_cases hll : l = s.size
        · have hne : ((l : Int) != (s.size : Int)) = false := by simp [hll]
          have HF2 := Lib.hid (show t.data.toList = autoL v0 v1 v2 v3 s.data.toList by have := HF.out; rw [List.drop_of_length_le (by simp; omega)] at this; simpa using this)
          clear hll
          go_wp2
          go_ret2
          exact ⟨_, t, rfl, HF2.out, HT.out, HL.out⟩
        · have hne : ((l : Int) != (s.size : Int)) = true := by simp; omega
          have hlen : t.size + (s.size - l) ≤ 1000000000 := by
            have := HF.out
            have h2 := congrArg List.length this
            simp at h2
            omega
          have HS := Lib.hid (wrs_any B a t (s.extract l s.size) wr.drew (HT.out.drewN 1) (by simp; omega) hBr)
          go_wp2_with fail
          go_region_with (first | (go_at_call 261; refine HS.out.mono ?_; rintro e w2 ⟨rfl, h2, h3⟩; have H2 := Lib.hid h2; have H3 := Lib.hid h3; clear h2 h3))
          all_goals go_wp2
          all_goals go_ret2
          all_goals exact ⟨_, t ++ s.extract l s.size, rfl, by rw [data_append, Lib.extract_to_end]; exact HF.out, H2.out, (HL.out.trans_drewN 1).trans H3.out⟩
end Go.Proofs.YtlkpbpecgdphaaaGreatDoor
