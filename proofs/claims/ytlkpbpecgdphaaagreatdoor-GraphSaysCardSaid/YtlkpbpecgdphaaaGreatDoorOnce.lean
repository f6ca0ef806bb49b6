/-
  WALKS: sync.Once over (*strings.Replacer).buildOnce: the first call of Do, the lock free.
-/
import Derived.Test.YtlkpbpecgdphaaaGreatDoorAutoW
import Derived.Test.YtlkpbpecgdphaaaGreatDoorSearch
import Derived.Tactics
import Derived.Tactics2
import Derived.Defers
import Derived.Laws.Pointers
import Derived.Laws.LoneSync
import Derived.RegionTactic
import Derived.RegionCalls
import Derived.ChangeAlike
namespace Go.Proofs.YtlkpbpecgdphaaaGreatDoor
open Go.RowKit

theorem RepOk.below {w w' : World} {B G : Nat} {v0 v1 v2 v3 : ByteArray} (h : RepOk w G v0 v1 v2 v3) (hb : Below B w w') (hG : G + 8 ≤ B) : RepOk w' G v0 v1 v2 v3 := h.keep (fun k _ h2 => hb.block k (by omega))
theorem _root_.Go.RowKit.Below.trans_drewN {B : Nat} {w w' : World} (h : Below B w w') (n : Nat) : Below B w (w'.drewN n) := ⟨h.os, h.tape, h.output, h.size, h.block⟩
def WwRel (B a : Nat) (v0 v1 v2 v3 s : ByteArray) (w : World) (x6 x7 x9 x10 x11 x12 : Value) (wr : World) : Prop :=
  ∃ (k l : Nat) (t : ByteArray), (∃ z : Int, x6 = .int .i64 z) ∧ x7 = .nilIface ∧ x9 = .int .i64 l ∧ (∃ z : Int, x10 = .int .i64 z) ∧ x11 = .bool false ∧ x12 = .int .i64 k ∧ AInv v0 v1 v2 v3 s.data.toList t.data.toList l k ∧ WrAt wr B a t ∧ Below B w wr
def WsPost (B a : Nat) (v0 v1 v2 v3 s : ByteArray) (w : World) (e : Ending) (w' : World) : Prop :=
  ∃ (z : Int) (t : ByteArray), e = .returned (.tuple #[.int .i64 z, .nilIface]) ∧ t.data.toList = autoL v0 v1 v2 v3 s.data.toList ∧ WrAt w' B a t ∧ Below B w w'

theorem nil_ahead (a : Addr) (w : World) : (nilAhead 435 323 (.pointer (some a)) "WriteString").run Tryz.prog w = .ok (some false) w := by kernel_rfl
theorem method_write (a : Addr) (w : World) : (method 435 323 (.pointer (some a)) "WriteString").run Tryz.prog w = .ok (261, .pointer (some a)) w := by kernel_rfl
set_option maxRecDepth 100000 in
set_option maxHeartbeats 3200000 in
theorem write_any (G B a : Nat) (v0 v1 v2 v3 s : ByteArray) (w : World) (h : RepOk w G v0 v1 v2 v3) (hs : s.size ≤ 1000000) (hG : G + 8 ≤ B) (hB : B ≤ w.heap.size) (hw : WrAt w B a ⟨#[]⟩)
    (hL : (autoL v0 v1 v2 v3 s.data.toList).length ≤ 1000000000) :
    Calls Tryz.prog 252 #[ptr G, .iface 323 (ptr a), .string s] w (WsPost B a v0 v1 v2 v3 s w) := by
  have HR := Lib.hid h
  have HW := Lib.hid hw
  clear h hw
  have hna := nil_ahead
  have hme := method_write
  go_enter Tryz.func252, Tryz.ntmps252
  go_wp2_with (go_at_call 253; refine (getw_any a _).mono ?_; rintro e w' ⟨rfl, rfl⟩)
  go_loopw [6, 7, 9, 10, 11, 12] (fun x6 x7 x9 x10 x11 x12 wr => WwRel B a v0 v1 v2 v3 s w x6 x7 x9 x10 x11 x12 wr) (fun _ _ _ _ _ i _ => s.size + 2 - (intOf i).toNat)
  case atStart => exact ⟨0, 0, ⟨#[]⟩, ⟨_, rfl⟩, rfl, rfl, ⟨_, rfl⟩, rfl, rfl, AInv.start _, HW.out, Below.refl _ _⟩
  case round =>
    obtain ⟨k, l, t, ⟨z6, rfl⟩, rfl, rfl, ⟨z10, rfl⟩, rfl, rfl, hin, hwr, hbl⟩ := hrel
    have HQ := Lib.hid (HR.out.below hbl hG)
    have HI := Lib.hid hin
    have HT := Lib.hid hwr
    have HL := Lib.hid hbl
    have hBr : B ≤ wr.heap.size := Nat.le_trans hB hbl.size
    have hlk := hin.lk
    have hls : l ≤ s.size := hin.ls
    have hks : k ≤ s.size + 1 := hin.ks
    clear hin hwr hbl
    have c1 : wr.cell? ⟨G, 1, none⟩ = some (.int .i64 0) := (HQ.out.gen.cell 1).trans (gC_1 _ _ _)
    have c4 : wr.cell? ⟨G, 4, none⟩ = some (tab (G + 1)) := (HQ.out.gen.cell 4).trans (gC_4 _ _ _)
    have c5 : wr.cell? ⟨G, 5, none⟩ = some (.int .i64 5) := (HQ.out.gen.cell 5).trans (gC_5 _ _ _)
    by_cases hk : k < s.size
    · have hcm := HQ.out.map s[k].toNat s[k].toNat_lt
      by_cases h36 : s[k] = 36
      · have hdl : (s.extract k s.size).data.toList = s.data.toList.drop k := Lib.extract_to_end s k
        have hlr := lookR_eq v0 v1 v2 v3 (s.extract k s.size)
        rw [hdl] at hlr
        have HLK := Lib.hid (fun q => lookup_any G v0 v1 v2 v3 (s.extract k s.size) (wr.drewN q) (HQ.out.drewN q) (by unfold maxLen; simp; omega) (fun h => by simp [ByteArray.getElem_extract]; exact h36))
        have ec : s[k].toNat = 36 := by rw [h36]; rfl
        have cm : wr.cell? ⟨G, 42, none⟩ = some (.int .u8 0) := by rw [ec, mp5_36.1] at hcm; exact hcm
        have t0 : wr.cell? ⟨G + 1, 0, none⟩ = some (ptr (G + 2)) := HQ.out.t0.cell 0
        have hne : ((k : Int) != (s.size : Int)) = true := by simp; omega
        clear hcm h36 hdl
        cases hv : look2 v0 v1 v2 v3 (s.data.toList.drop k) with
        | none =>
          have HNX := Lib.hid (HI.out.skip (by simpa using hk) hv)
          have HLR := Lib.hid (hlr.trans hv)
          clear hv hlr
          go_wp2_with fail
          go_quiet (fail)
          go_wp2_with (go_at_call 254; refine (HLK.out _).mono ?_; rintro e w' ⟨rfl, q, rfl⟩; rw [HLR.out]; simp only [lookV])
          go_roundw
          case rel => exact ⟨k + 1, l, t, ⟨_, rfl⟩, rfl, rfl, ⟨_, rfl⟩, rfl, by go_num, HNX.out, HT.out.drewN (nq + q), HL.out.trans_drewN (nq + q)⟩
          case measure => simp [intOf]; omega
        | some v =>
          have HNX := Lib.hid (HI.out.hit hv).1
          have hk2 : k + 2 ≤ s.size := by have := (HI.out.hit hv).2; simpa using this
          have HLR := Lib.hid (hlr.trans hv)
          have hl1 := HNX.out.len
          simp at hl1
          have hl2 : t.size + (k - l) + v.size ≤ 1000000000 := by have e1 : t.data.toList.length = t.size := by simp
                                                                  have e2 : v.data.toList.length = v.size := by simp
                                                                  simp at e1 e2; omega
          clear hv hlr hl1
          go_wp2_with fail
          go_quiet (fail)
          go_wp2_with (go_at_call 254; refine (HLK.out _).mono ?_; rintro e w' ⟨rfl, q, rfl⟩; rw [HLR.out]; simp only [lookV])
          have HT3 := Lib.hid (HT.out.drewN (nq + q))
          have HL3 := Lib.hid (HL.out.trans_drewN (nq + q))
          have hB3 : B ≤ (wr.drewN (nq + q)).heap.size := hBr
          generalize wr.drewN (nq + q) = w3 at *
          clear HLK HLR HQ HT HL c1 c4 c5 cm t0
          have hex : (s.extract l k).size = k - l := by simp; omega
          have HX := Lib.hid hex
          clear hex
          have HS := Lib.hid (wrs_any B a t (s.extract l k) w3.drew (HT3.out.drewN 1) (by rw [HX.out]; omega) hB3)
          go_region_with (first | (go_at_call 261; refine HS.out.mono ?_; rintro e w4 ⟨rfl, h4, h5⟩; have H4 := Lib.hid h4; have HL4 := Lib.hid ((HL3.out.trans_drewN 1).trans h5); have hB4 : B ≤ w4.heap.size := Nat.le_trans hB3 h5.size; clear h4 h5))
          all_goals (go_wp2_with (go_at_call 261; refine (wrs_any B a (t ++ s.extract l k) v w4 H4.out (by rw [ByteArray.size_append, HX.out]; omega) hB4).mono ?_; rintro e w5 ⟨rfl, h6, h7⟩; have H6 := Lib.hid h6; have HL6 := Lib.hid (HL4.out.trans h7); clear h6 h7))
          all_goals go_roundw
          case rel => exact ⟨k + 2, k + 2, t ++ s.extract l k ++ v, ⟨_, rfl⟩, rfl, by go_num, ⟨_, rfl⟩, rfl, by go_num, by rw [data_append, data_append, Lib.extract_data]; exact HNX.out, H6.out, HL6.out⟩
          case measure => simp [intOf]; omega
      · have hno : look2 v0 v1 v2 v3 (s.data.toList.drop k) = none := by
          rw [List.drop_eq_getElem_cons (by simpa using hk)]
          unfold look2
          split
          · rename_i heq
            injection heq with e1 e2
            rw [if_neg]
            rw [← e1]
            exact h36
          · rfl
        have HNX := Lib.hid (HI.out.skip (by simpa using hk) hno)
        have hk3 := s[k].toNat_lt
        obtain ⟨m, hm, hm5, hm0, _⟩ := mp5_lt s[k].toNat hk3
        have hmne : m ≠ 0 := fun e => h36 (UInt8.toNat_inj.1 (hm0 e))
        rw [hm] at hcm
        obtain ⟨c, ec⟩ : ∃ c, s[k].toNat = c := ⟨_, rfl⟩
        rw [ec] at hcm hk3
        have hc2 : (c : Int) < 256 := by omega
        have hne : ((k : Int) != (s.size : Int)) = true := by simp; omega
        by_cases h5 : m = 5
        · subst h5
          go_wp2_with fail
          go_quiet (fail)
          go_wp2
          go_roundw
          case rel => exact ⟨k + 1, l, t, ⟨_, rfl⟩, rfl, rfl, ⟨_, rfl⟩, rfl, by go_num, HNX.out, HT.out.drewN nq, HL.out.trans_drewN nq⟩
          case measure => simp [intOf]; omega
        · have tm : wr.cell? ⟨G + 1, m, none⟩ = some noP := by
            rw [HQ.out.t0.cell m]
            rcases m with _ | _ | _ | _ | _ | m
            · omega
            · rfl
            · rfl
            · rfl
            · rfl
            · omega
          have hm6 : ((m : Int) == 5) = false := by rw [beq_eq_false_iff_ne]; omega
          have hm2 : (m : Int) < 5 := by omega
          clear hmne h5
          go_wp2_with fail
          go_quiet (fail)
          go_wp2
          go_roundw
          case rel => exact ⟨k + 1, l, t, ⟨_, rfl⟩, rfl, rfl, ⟨_, rfl⟩, rfl, by go_num, HNX.out, HT.out.drewN nq, HL.out.trans_drewN nq⟩
          case measure => simp [intOf]; omega
    · by_cases hk2 : k = s.size
      · have hne : ((k : Int) != (s.size : Int)) = false := by simp [hk2]
        have HNX := Lib.hid (HI.out.last (by simpa using hk2))
        have HLK := Lib.hid (lookup_any G v0 v1 v2 v3 (s.extract k s.size) wr HQ.out (by unfold maxLen; simp; omega) (fun h => by simp at h; omega))
        have hlr : lookR v0 v1 v2 v3 (s.extract k s.size) = none := lookR_none_of (by simp; omega)
        have HLR := Lib.hid hlr
        clear hlr hk2
        go_wp2_with (go_at_call 254; refine HLK.out.mono ?_; rintro e w' ⟨rfl, q, rfl⟩; rw [HLR.out]; simp only [lookV])
        go_roundw
        case rel => exact ⟨k + 1, l, t, ⟨_, rfl⟩, rfl, rfl, ⟨_, rfl⟩, rfl, by go_num, HNX.out, HT.out.drewN q, HL.out.trans_drewN q⟩
        case measure => simp [intOf]; omega
      · have hks' : k = s.size + 1 := by omega
        have hfin := HI.out
        rw [show k = s.data.toList.length + 1 by simpa using hks'] at hfin
        have HF := Lib.hid hfin.fin
        clear hks' hfin
        by_cases hll : l = s.size
        · have hne : ((l : Int) != (s.size : Int)) = false := by simp [hll]
          have HF2 := Lib.hid (show t.data.toList = autoL v0 v1 v2 v3 s.data.toList by have := HF.out; rw [List.drop_of_length_le (by simp; omega)] at this; simpa using this)
          clear hll
          go_wp2
          go_ret2
          exact ⟨_, t, rfl, HF2.out, HT.out, HL.out⟩
        · have hne : ((l : Int) != (s.size : Int)) = true := by simp; omega
          have hlen : t.size + (s.size - l) ≤ 1000000000 := by
            have := HF.out
            have h2 := congrArg List.length this
            simp at h2
            omega
          have HS := Lib.hid (wrs_any B a t (s.extract l s.size) wr.drew (HT.out.drewN 1) (by simp; omega) hBr)
          go_wp2_with fail
          go_region_with (first | (go_at_call 261; refine HS.out.mono ?_; rintro e w2 ⟨rfl, h2, h3⟩; have H2 := Lib.hid h2; have H3 := Lib.hid h3; clear h2 h3))
          all_goals go_wp2
          all_goals go_ret2
          all_goals exact ⟨_, t ++ s.extract l s.size, rfl, by rw [data_append, Lib.extract_to_end]; exact HF.out, H2.out, (HL.out.trans_drewN 1).trans H3.out⟩
end Go.Proofs.YtlkpbpecgdphaaaGreatDoor
namespace Go.Proofs.YtlkpbpecgdphaaaGreatDoor

theorem race_disable (w : World) : (callFunc 215 #[]).run Tryz.prog w = .ok (.value (.tuple #[])) w := run_call_mark0 Tryz.func215 (by kernel_rfl) (by kernel_rfl) (by kernel_rfl) .disable (by kernel_rfl) w
theorem race_enable (w : World) : (callFunc 217 #[]).run Tryz.prog w = .ok (.value (.tuple #[])) w := run_call_mark0 Tryz.func217 (by kernel_rfl) (by kernel_rfl) (by kernel_rfl) .enable (by kernel_rfl) w
theorem race_acquire (a : Addr) (w : World) : (callFunc 218 #[.pointer (some a)]).run Tryz.prog w = .ok (.value (.tuple #[])) w := run_call_marked Tryz.func218 (by kernel_rfl) (by kernel_rfl) (by kernel_rfl) .acquire (by kernel_rfl) a w
theorem race_merge (a : Addr) (w : World) : (callFunc 220 #[.pointer (some a)]).run Tryz.prog w = .ok (.value (.tuple #[])) w := run_call_marked Tryz.func220 (by kernel_rfl) (by kernel_rfl) (by kernel_rfl) .releaseMerge (by kernel_rfl) a w

set_option maxRecDepth 100000 in
/-- The store of 'done', entered as a deferred call. -/
theorem once_store (a : Addr) (x : Value) (u : FrameMode) (w : World) (hc : w.cell? a = some x) (hz : w.frozen? a = false) :
    CallsD Tryz.prog 198 #[.pointer (some a), .bool true] u w fun e u' w' => u' = u ∧ (e = .returned (.tuple #[]) ∧ w' = w.drew.setCell a (.int .u32 1)) := by
  have hc' : w.drew.cell? a = some x := by go_simp
  have hz' : w.drew.frozen? a = false := by go_simp
  have hst := run_call_store (P := Tryz.prog) Tryz.func209 (by kernel_rfl) (by kernel_rfl) (by kernel_rfl) (by kernel_rfl) (k := .u32) (y := 1) hc' hz'
  go_enter_d Tryz.func198, Tryz.ntmps198
  go_wp2
  go_region_calls
  all_goals (go_end0; exact ⟨rfl, rfl⟩)

set_option maxRecDepth 100000 in
/-- The lock let go, entered as a deferred call: nobody waits. -/
theorem once_unlock (a : Addr) (u : FrameMode) (w : World) (hc : w.cell? a = some (.int .i32 1)) (hz : w.frozen? a = false) :
    CallsD Tryz.prog 197 #[.pointer (some a)] u w fun e u' w' => u' = u ∧ (e = .returned (.tuple #[]) ∧ w' = w.setCell a (.int .i32 0)) := by
  have hd := race_disable
  have he := race_enable
  have hr := race_merge
  have hadd := run_call_add (P := Tryz.prog) Tryz.func221 (by kernel_rfl) (by kernel_rfl) (by kernel_rfl) .i32 (by kernel_rfl) (y := -1) (s := 0) hc hz (by simp [go_sem]; rfl)
  have hcv := run_convert_to_unsafe (P := Tryz.prog) (src := 295) (dst := 249) Tryz.underlying295 Tryz.underlying249 (by kernel_rfl) hc
  go_enter_d Tryz.func197, Tryz.ntmps197
  go_wp2
  go_end0
  go_wp2
  go_end0
  exact ⟨rfl, rfl⟩

set_option maxRecDepth 100000 in
/-- The lock taken, free before. -/
theorem once_lock (a : Addr) (w : World) (hc : w.cell? a = some (.int .i32 0)) (hz : w.frozen? a = false) :
    Calls Tryz.prog 196 #[.pointer (some a)] w fun e w' => e = .returned (.tuple #[]) ∧ w' = w.setCell a (.int .i32 1) := by
  have hd := race_disable
  have he := race_enable
  have ha := race_acquire
  have hcas := run_call_cas_hit (P := Tryz.prog) Tryz.func216 (by kernel_rfl) (by kernel_rfl) (by kernel_rfl) .i32 (by kernel_rfl) (y := 1) hc hz
  have hc' : (w.setCell a (.int .i32 1)).cell? a = some (.int .i32 1) := World.cell?_setCell_same w a _ hc
  have hcv := run_convert_to_unsafe (P := Tryz.prog) (src := 295) (dst := 249) Tryz.underlying295 Tryz.underlying249 (by kernel_rfl) hc'
  go_enter Tryz.func196, Tryz.ntmps196
  go_wp2
  first | go_end0 | (simp only [Exit.inBlock, Exit.then]; refine bodyPost_ret (results_none rfl _ _ _) rfl ?_) | refine bodyPost_ret (results_none rfl _ _ _) rfl ?_
  go_wp2
  go_end0
  exact ⟨rfl, rfl⟩

/-- What a once's own cells hold: not done, the lock in state s. -/
structure OnceAt (w : World) (b : Nat) (s : Int) : Prop where
  done : w.cell? ⟨b, 0, none⟩ = some (.int .u32 0)
  lock : w.cell? ⟨b, 1, none⟩ = some (.int .i32 s)
  fdone : w.frozen? ⟨b, 0, none⟩ = false
  flock : w.frozen? ⟨b, 1, none⟩ = false
theorem OnceAt.locked {w : World} {b : Nat} (h : OnceAt w b 0) : OnceAt (w.setCell ⟨b, 1, none⟩ (.int .i32 1)) b 1 :=
  ⟨(World.cell?_setCell_other _ ⟨b, 1, none⟩ ⟨b, 0, none⟩ _ (by simp)).trans h.done, World.cell?_setCell_same w _ _ h.lock, by simp [h.fdone], by simp [h.flock]⟩

set_option maxRecDepth 100000 in
set_option maxHeartbeats 1600000 in
/-- doSlow, not yet done and the lock free, over whatever the function leaves. -/
theorem once_slow (b : Nat) (w : World) (Q : World → Prop) (h : OnceAt w b 0) (hQ : ∀ w', Q w' → OnceAt w' b 1)
    (hf : Calls Tryz.prog 177 #[.pointer (some ⟨b, 0, none⟩)] (w.setCell ⟨b, 1, none⟩ (.int .i32 1)) fun e w' => e = .returned (.tuple #[]) ∧ Q w') :
    Calls Tryz.prog 186 #[.pointer (some ⟨b, 0, none⟩), .func (.func 177) #[.pointer (some ⟨b, 0, none⟩)] #[]] w fun e w' => e = .returned (.tuple #[]) ∧
      ∃ w1, Q w1 ∧ w' = (w1.drew.setCell ⟨b, 0, none⟩ (.int .u32 1)).setCell ⟨b, 1, none⟩ (.int .i32 0) := by
  have hl := run_call_load (P := Tryz.prog) Tryz.func195 (by kernel_rfl) (by kernel_rfl) (by kernel_rfl) .u32 (by kernel_rfl) (w := w.setCell ⟨b, 1, none⟩ (.int .i32 1)) (a := ⟨b, 0, none⟩) (x := 0) h.locked.done
  have hnot : ∀ (x : Bool) (w : World), (Op.unary .not (.bool x)).run Tryz.prog w = .ok (.bool (!x)) w := fun _ _ => rfl
  have h1 := h.lock
  have f1 := h.flock
  have HQ := Lib.hid hQ
  have HF := Lib.hid hf
  clear hQ hf h
  go_enter_defers Tryz.func186, Tryz.ntmps186
  go_wp2_with (go_at_call 196; refine (once_lock ⟨b, 1, none⟩ _ (by go_simp) (by go_simp)).mono ?_; rintro e w' ⟨rfl, rfl⟩)
  go_wp2_with (first | (go_at_call 177; refine HF.out.mono ?_; rintro e w2 ⟨rfl, hq⟩) | (go_at_call 185; go_in))
  have hd := HQ.out _ hq
  have HW := Lib.hid hq
  clear hq
  refine leaves_cons (f := 198) (args := #[.pointer (some ⟨b, 0, none⟩), .bool true]) (by simp) (by simp [go_sem]) ?_
  refine (once_store ⟨b, 0, none⟩ (.int .u32 0) .returning _ hd.done hd.fdone).mono ?_
  rintro e u' w'' ⟨rfl, rfl, rfl⟩
  refine leaves_cons (f := 197) (args := #[.pointer (some ⟨b, 1, none⟩)]) (by simp [settle]) (by simp [go_sem]) ?_
  refine (once_unlock ⟨b, 1, none⟩ _ _ ?_ (by simp [hd.flock])).mono ?_
  · refine (World.cell?_setCell_other _ ⟨b, 0, none⟩ ⟨b, 1, none⟩ _ (by simp)).trans ?_
    rw [World.cell?_drew]
    exact hd.lock
  rintro e u' w'' ⟨rfl, rfl, rfl⟩
  have := HW.out
  simp [Leaves, settle, results, Tryz.results186]
  exact ⟨_, this, rfl⟩

set_option maxRecDepth 100000 in
set_option maxHeartbeats 1600000 in
/-- Do, not yet done and the lock free. -/
theorem once_do (b : Nat) (w : World) (Q : World → Prop) (h : OnceAt w b 0) (hQ : ∀ w', Q w' → OnceAt w' b 1)
    (hf : Calls Tryz.prog 177 #[.pointer (some ⟨b, 0, none⟩)] (w.setCell ⟨b, 1, none⟩ (.int .i32 1)) fun e w' => e = .returned (.tuple #[]) ∧ Q w') :
    Calls Tryz.prog 176 #[.pointer (some ⟨b, 0, none⟩), .func (.func 177) #[.pointer (some ⟨b, 0, none⟩)] #[]] w fun e w' => e = .returned (.tuple #[]) ∧
      ∃ w1, Q w1 ∧ w' = (w1.drew.setCell ⟨b, 0, none⟩ (.int .u32 1)).setCell ⟨b, 1, none⟩ (.int .i32 0) := by
  have hl := run_call_load (P := Tryz.prog) Tryz.func195 (by kernel_rfl) (by kernel_rfl) (by kernel_rfl) .u32 (by kernel_rfl) h.done
  have hnot : ∀ (x : Bool) (w : World), (Op.unary .not (.bool x)).run Tryz.prog w = .ok (.bool (!x)) w := fun _ _ => rfl
  have HS := Lib.hid (once_slow b w Q h hQ hf)
  clear hQ hf h
  go_enter Tryz.func176, Tryz.ntmps176
  go_wp2_with (first | (go_at_call 186; refine HS.out.mono ?_; rintro e w' ⟨rfl, hw⟩) | (go_at_call 185; go_in))
  go_end0
  exact ⟨rfl, hw⟩
end Go.Proofs.YtlkpbpecgdphaaaGreatDoor
