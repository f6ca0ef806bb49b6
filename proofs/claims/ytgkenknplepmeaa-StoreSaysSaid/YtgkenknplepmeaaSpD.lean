/-
  WALK: (*store.Store).Checkpoint, on a disk that is neither armed nor down.
-/
import Derived.Test.YtgkenknplepmeaaSpA
namespace Go.Proofs.Ytgkenknplepmeaa
open Go.RowKit Go.Sort

def SvPost (w : World) (base p B ps a fi len cap : Nat) (A : Option Addr) (rows : List Ch) (n : Nat) (e : Ending) (w' : World) : Prop :=
  e = .returned .nilIface ∧ ∃ (pl' f2 : Nat) (D' : Dk) (V' : Nat → Value), Blk w' ps tSo #[ptr p, ptr pl', .int .i64 (1 - a : Nat), .slice A len cap] ∧ Blk w' pl' tLog #[ptr p, .int .i64 (44 : Nat), .int .i64 ((n - 44 : Nat) : Int), .int .i64 f2, .int .i64 (0 : Nat)] ∧ base ≤ pl' ∧
    DkAt w' base p B V' D' ∧ SGood D' (1 - a) f2 0 rows [] ∧ D'.n = n ∧ f2 ≤ fi + (n - 44) + 1 ∧ Below base w w' ∧ Fr base w w' ∧ KpC w' base A len cap rows ∧ Tq w w'
set_option maxRecDepth 100000 in
set_option maxHeartbeats 4000000 in
theorem save_any (base p B ps pl a fi u len cap : Nat) (A : Option Addr) (V : Nat → Value) (D : Dk) (rows0 rows : List Ch) (es : List (List Ch)) (w : World) (hd : DkAt w base p B V D) (hg : SGood D a fi u rows0 es)
    (hps : Blk w ps tSo #[ptr p, ptr pl, .int .i64 a, .slice A len cap]) (hlg : Blk w pl tLog #[ptr p, .int .i64 (44 : Nat), .int .i64 ((D.n - 44 : Nat) : Int), .int .i64 fi, .int .i64 u]) (hkp : KpC w base A len cap rows)
    (hok : RowsOk rows) (hfew : tmB rows = false) (hfi : fi ≤ 10000000000) (hb0 : base ≤ ps) :
    Calls Try.prog 52 #[ptr ps] w (SvPost w base p B ps a fi len cap A rows D.n) := by
  obtain ⟨hS, hl40⟩ := rows_few hok.ck hfew
  have hbw : base ≤ w.heap.size := Nat.le_trans hd.hp (Nat.le_of_lt hd.ltp)
  have ha := hg.a1
  have hn1 := hg.n1
  have hn2 := hg.n2
  obtain ⟨b, hb⟩ : ∃ b, 1 - a = b := ⟨_, rfl⟩
  have hb1 : b ≤ 1 := by omega
  have hbi : (1 : Int) - (a : Int) = (b : Int) := by omega
  have hbw2 : IntKind.i64.wrap ((1 : Int) - (a : Int)) = (b : Int) := by rw [IntKind.wrap_i64]; omega
  obtain ⟨es1, hdn1, hg1, hcl⟩ := save_area hg hb1 hok hfew
  have hlen := hkp.1.1
  have hwo : WrOut D b rows = .tuple #[.int .i64 ((rowsR rows).size : Int), .nilIface] := by unfold WrOut; rw [if_pos es1]
  obtain ⟨z, hz⟩ : ∃ z, (rowsR rows).size = z := ⟨_, rfl⟩
  rw [hz] at hwo
  have hsv := fun f2 hf2 => sgood_save hg (f2 := f2) hb1 hok hfew hf2
  have hB0 : Below w.heap.size w (w.alloc (.cells #[.int .i64 b, .int .i64 0, .int .i64 0] tHd)) := (Below.refl _ _).alloc (Nat.le_refl _) _
  have hwr := fun W (hW : Below w.heap.size w W) => writeRows_any base p B b V D A len cap rows W (hd.keep (fun _ _ hk => hW.block _ hk)) (hkp.keep (Fr.of_below hW hbw)) hb1 (by omega) hS (by omega) hok.ck (hg.flat.wok 22 (by omega))
  rw [hwo] at hwr
  have hwr2 := fun W (hW : Below w.heap.size w W) => (hwr W hW).mono (R' := fun e w' => e = .returned (.tuple #[.int .i64 (z : Int), .nilIface]) ∧ (∃ V', DkAt w' base p B V' (wrL D (1 + b * 21) (chunksR (rowsR rows))).1) ∧ Below base w w' ∧ (Fr base w w' ∧ Tq w w') ∧ Ty W w') (fun e w' ⟨he, hd, hb, hy⟩ => ⟨he, hd, (hW.mono hbw).trans hb, ⟨(Fr.of_below hW hbw).trans (Fr.of_ty hy hb), (Tq.of_below hW).trans (Tq.of_ty hy)⟩, hy⟩)
  have HWR := Lib.hid hwr2
  have HSV := Lib.hid hsv
  have HPS := Lib.hid (hps.alloc (.cells #[.int .i64 b, .int .i64 0, .int .i64 0] tHd))
  have HLG := Lib.hid (hlg.alloc (.cells #[.int .i64 b, .int .i64 0, .int .i64 0] tHd))
  have HHD := Lib.hid (Blk.new w tHd #[.int .i64 b, .int .i64 0, .int .i64 0])
  have HKP := Lib.hid (hkp.keep (Fr.of_below hB0 hbw))
  have HB0 := Lib.hid hB0
  have HF1 := Lib.hid (fun k hk => wok_done hdn1 (k := k) hk)
  have hd1n := hdn1.n_
  have hdn := hg1.down
  have c2 := hps.cell 2
  rw [hz] at HSV
  have HBB := Lib.hid hb
  have HKW := Lib.hid hkp
  have hzs : z ≤ 7140 := by omega
  clear hd hg hps hlg hkp hok hfew es1 hdn1 hg1 hwo hwr hwr2 hsv hB0 hlen hz hb
  generalize (wrL D (1 + b * 21) (chunksR (rowsR rows))).1 = D1 at *
  unfold ptr at *
  go_enter Try.func52, Try.ntmps52
  go_wp2_with fail
  generalize hw0 : w.alloc (.cells #[.int .i64 b, .int .i64 0, .int .i64 0] tHd) = w0 at *
  have hz0 : w.heap.size ≤ w0.heap.size := HB0.out.size
  go_region_held3 (fun w' => w'.cell? ⟨ps, 0, none⟩ = some (.pointer (some ⟨p, 0, none⟩)) ∧ w'.cell? ⟨ps, 3, none⟩ = some (.slice A len cap) ∧ w'.cell? ⟨w.heap.size, 0, none⟩ = some (.int .i64 b))
    (first | exact ⟨HPS.out.cell 0, HPS.out.cell 3, HHD.out.cell 0⟩ | exact ⟨HP1.out.cell 0, HP1.out.cell 3, HH1.out.cell 0⟩)
    (first
      | (go_at_call 86; refine (HWR.out _ ?_).mono ?_; exact HB0.out.trans ⟨rfl, rfl, rfl, Nat.le_refl _, fun _ hk => rfl⟩; rintro e w1 ⟨rfl, hd1, hb1', hr1, hy1⟩; have HP1 := Lib.hid (show Blk w1 ps tSo _ from hy1 _ _ _ HPS.out (by decide) (by decide) (by decide)); have HH1 := Lib.hid (show Blk w1 w.heap.size tHd _ from hy1 _ _ _ HHD.out (by decide) (by decide) (by decide)); have HL1 := Lib.hid (show Blk w1 pl tLog _ from hy1 _ _ _ HLG.out (by decide) (by decide) (by decide)); have HR1 := Lib.hid hr1.1; have HT1 := Lib.hid hr1.2; have HB1 := Lib.hid hb1'; have HD1 := Lib.hid hd1; clear hd1 hb1' hr1 hy1))
  obtain ⟨V1, hd1⟩ := HD1.out
  have e1 := HH1.out.cell 1
  have f1 := HH1.out.free 1
  have hpne : ps ≠ w.heap.size := fun e => (by have h1 := HP1.out; rw [e] at h1; exact h1.ne HH1.out (by decide) rfl)
  have hlne : pl ≠ w.heap.size := fun e => (by have h1 := HL1.out; rw [e] at h1; exact h1.ne HH1.out (by decide) rfl)
  have HH2 := Lib.hid (HH1.out.set 1 (.int .i64 (z : Int)))
  have HP2 := Lib.hid (HP1.out.other hpne (i := 1) (.int .i64 (z : Int)))
  have HL2 := Lib.hid (HL1.out.other hlne (i := 1) (.int .i64 (z : Int)))
  have HD2 := Lib.hid (hd1.setG HH1.out (by decide) (by decide) (by decide) 1 (.int .i64 (z : Int)))
  have HR2 := Lib.hid (HR1.out.setNew (i := 1) HH1.out (by decide) (by decide) hbw (.int .i64 (z : Int)))
  have HT2 := Lib.hid (HT1.out.setNew (b := w.heap.size) (i := 1) (Nat.le_refl _) (.int .i64 (z : Int)))
  have HB2 := Lib.hid (HB1.out.setCell (p := ⟨w.heap.size, 1, none⟩) (by show base ≤ w.heap.size; exact hbw) (.int .i64 (z : Int)))
  clear HD1 hd1 HWR HPS HHD HLG HKP HB0 hw0 c2
  go_wp2_with fail
  generalize w1.setCell ⟨w.heap.size, 1, none⟩ (.int .i64 (z : Int)) = w2 at *
  obtain ⟨m, hm⟩ : ∃ m, D.n - 44 = m := ⟨_, rfl⟩
  rw [hm] at HL2
  obtain ⟨fx, hfx⟩ : ∃ fx, fi + m = fx := ⟨_, rfl⟩
  have hfxi : (fi : Int) + (m : Int) = (fx : Int) := by omega
  have HNX := Lib.hid (fun W (h : Blk W pl tLog _) => next_any pl p 44 m fi u W h (by omega) (by omega))
  rw [hfxi] at HNX
  have HEL := Lib.hid (fun W (h : DkAt W base p B V1 D1) => emptyLog_any base p B fx V1 D1 W h hdn (by omega) (by have := HSV.out; omega) (by omega))
  unfold ptr at HNX HEL
  go_region_held3 (fun w' => w'.cell? ⟨ps, 0, none⟩ = some (.pointer (some ⟨p, 0, none⟩)) ∧ w'.cell? ⟨ps, 1, none⟩ = some (.pointer (some ⟨pl, 0, none⟩)))
    (first | exact ⟨HP2.out.cell 0, HP2.out.cell 1⟩ | exact ⟨HP3.out.cell 0, HP3.out.cell 1⟩ | exact ⟨HP4.out.cell 0, HP4.out.cell 1⟩)
    (first
      | (go_at_call 45; refine (HNX.out _ ?_).mono ?_; exact HL2.out; rintro e wq ⟨rfl, q3, rfl⟩; have HP3 := Lib.hid HP2.out)
      | (go_at_call 83; refine (HEL.out _ ?_).mono ?_; exact HD2.out.keep (fun _ _ _ => rfl); rintro e w4 ⟨pl2, f2, rfl, hf21, hf22, hpl2, hlog, hlg2, hb4⟩; have HP4 := Lib.hid (show Blk w4 ps tSo _ from (hb4.block _ HP2.out.lt).trans HP2.out); have HB4 := Lib.hid hb4; have HG4 := Lib.hid hlg2; have HO4 := Lib.hid hlog; clear hb4 hlg2 hlog))
  have hw24 : base ≤ w2.heap.size := Nat.le_trans hbw HR2.out.size
  have hk4 : ∀ k, k < w2.heap.size → w4.heap[k]? = w2.heap[k]? := fun k hk => HB4.out.block k hk
  have hd4 : DkAt w4 base p B V1 D1 := HD2.out.keep (fun k _ hk => hk4 k hk)
  have hh4 : Blk w4 w.heap.size tHd _ := (hk4 _ HH2.out.lt).trans HH2.out
  have HR4 := Lib.hid (HR2.out.trans (show Fr base w2 w4 from ⟨HB4.out.size, fun k hk => hk4 k (by omega), fun k _ hb => (hk4 k hb.lt).trans hb, fun k _ hb => (hk4 k hb.lt).trans hb⟩))
  have HT4 := Lib.hid (HT2.out.trans (show Tq w2 w4 from fun g t cs hb _ _ _ _ _ => (hk4 g hb.lt).trans hb))
  have HB4' := Lib.hid (HB2.out.trans (show Below base w2 w4 from ⟨HB4.out.os, HB4.out.tape, HB4.out.output, HB4.out.size, fun k hk => hk4 k (by omega)⟩))
  have hpl2' : base ≤ pl2 := Nat.le_trans hw24 hpl2
  have e2 := hh4.cell 2
  have f2' := hh4.free 2
  have hgne : pl2 ≠ w.heap.size := fun e => (by have h1 := HG4.out; rw [e] at h1; exact h1.ne hh4 (by decide) rfl)
  have HH5 := Lib.hid (hh4.set 2 (.int .i64 (f2 : Int)))
  have HP5 := Lib.hid (HP4.out.other hpne (i := 2) (.int .i64 (f2 : Int)))
  have HG5 := Lib.hid (HG4.out.other hgne (i := 2) (.int .i64 (f2 : Int)))
  have HD5 := Lib.hid (hd4.setG hh4 (by decide) (by decide) (by decide) 2 (.int .i64 (f2 : Int)))
  have HR5 := Lib.hid (HR4.out.setNew (i := 2) hh4 (by decide) (by decide) hbw (.int .i64 (f2 : Int)))
  have HT5 := Lib.hid (HT4.out.setNew (b := w.heap.size) (i := 2) (Nat.le_refl _) (.int .i64 (f2 : Int)))
  have HB5 := Lib.hid (HB4'.out.setCell (p := ⟨w.heap.size, 2, none⟩) (by show base ≤ w.heap.size; exact hbw) (.int .i64 (f2 : Int)))
  obtain ⟨es2, hsg, hn3⟩ := HSV.out f2 (by omega) HO4.out
  have HWH := Lib.hid (fun W (h : DkAt W base p B V1 D1) => writeHead_any base p B b z f2 V1 D1 W h (HF1.out 1 (by omega)) hb1 (by omega) (by omega))
  unfold WrPost at HWH
  rw [es2] at HWH
  rw [show erV 0 = .nilIface from rfl] at HWH
  have HSG := Lib.hid hsg
  unfold ptr at HWH HG5
  clear hd4 hh4 hk4 HR4 HB4' HB4 HG4 HP4 HO4 hsg HSV HNX HEL HP2 HL2 HH2 HD2 HR2 HB2 HP3
  unfold ptr
  go_wp2_with fail
  generalize w4.setCell ⟨w.heap.size, 2, none⟩ (.int .i64 (f2 : Int)) = w5 at *
  go_region_held3 (fun w' => w'.cell? ⟨ps, 0, none⟩ = some (.pointer (some ⟨p, 0, none⟩)) ∧ w'.cell? ⟨w.heap.size, 0, none⟩ = some (.int .i64 b) ∧ w'.cell? ⟨w.heap.size, 1, none⟩ = some (.int .i64 z) ∧ w'.cell? ⟨w.heap.size, 2, none⟩ = some (.int .i64 f2))
    (first | exact ⟨HP5.out.cell 0, HH5.out.cell 0, HH5.out.cell 1, HH5.out.cell 2⟩ | exact ⟨HP6.out.cell 0, HH6.out.cell 0, HH6.out.cell 1, HH6.out.cell 2⟩)
    (first
      | (go_at_call 84; refine (HWH.out _ ?_).mono ?_; exact HD5.out.keep (fun _ _ _ => rfl); rintro e w6 ⟨rfl, hd6, hb6, hy6⟩; have HP6 := Lib.hid (show Blk w6 ps tSo _ from hy6 _ _ _ HP5.out (by decide) (by decide) (by decide)); have HH6 := Lib.hid (show Blk w6 w.heap.size tHd _ from hy6 _ _ _ HH5.out (by decide) (by decide) (by decide)); have HG6 := Lib.hid (show Blk w6 pl2 tLog _ from hy6 _ _ _ HG5.out (by decide) (by decide) (by decide)); have HY6 := Lib.hid hy6; have HB6 := Lib.hid hb6; have HD6 := Lib.hid hd6; clear hd6 hb6 hy6))
  obtain ⟨V6, hd6⟩ := HD6.out
  have g0 := HH6.out.cell 0
  have p2 := HP6.out.cell 2
  have q2 := HP6.out.free 2
  have hp7 := HP6.out.set 2 (.int .i64 (b : Int))
  have p1 := hp7.cell 1
  have q1 := hp7.free 1
  have hp8 := hp7.set 1 (.pointer (some ⟨pl2, 0, none⟩))
  have hgp : pl2 ≠ ps := fun e => (by have h1 := HG6.out; rw [e] at h1; exact h1.ne HP6.out (by decide) rfl)
  have hg8 := (HG6.out.other hgp (i := 2) (.int .i64 (b : Int))).other hgp (i := 1) (.pointer (some ⟨pl2, 0, none⟩))
  have hd8 := (hd6.setG HP6.out (by decide) (by decide) (by decide) 2 (.int .i64 (b : Int))).setG hp7 (by decide) (by decide) (by decide) 1 (.pointer (some ⟨pl2, 0, none⟩))
  have hr6 := HR5.out.trans (show Fr base w5 w6 from ⟨HB6.out.size, fun k hk => HB6.out.block k hk, fun k cs h => HY6.out k tCh cs h (by decide) (by decide) (by decide), fun k cs h => HY6.out k tSl cs h (by decide) (by decide) (by decide)⟩)
  have hr8 := (hr6.setNew (i := 2) HP6.out (by decide) (by decide) hb0 (.int .i64 (b : Int))).setNew (i := 1) hp7 (by decide) (by decide) hb0 (.pointer (some ⟨pl2, 0, none⟩))
  have hb6 : Below base w w6 := HB5.out.trans (show Below base w5 w6 from ⟨HB6.out.os, HB6.out.tape, HB6.out.output, HB6.out.size, fun k hk => HB6.out.block k hk⟩)
  have hb8 := (hb6.setCell (p := ⟨ps, 2, none⟩) hb0 (.int .i64 (b : Int))).setCell (p := ⟨ps, 1, none⟩) hb0 (.pointer (some ⟨pl2, 0, none⟩))
  have HT8 := Lib.hid (((HT5.out.trans (show Tq w5 w6 from fun g t cs hb h1 h2 h3 _ _ => HY6.out g t cs hb h1 h2 h3)).setSo (i := 2) HP6.out (.int .i64 (b : Int))).setSo (i := 1) hp7 (.pointer (some ⟨pl2, 0, none⟩)))
  have HR8 := Lib.hid hr8
  have HB8 := Lib.hid hb8
  have HP8 := Lib.hid hp8
  have HG8 := Lib.hid hg8
  have HD8 := Lib.hid hd8
  clear hp7 hp8 hg8 hd8 hd6 hr6 hr8 hb6 hb8
  go_wp2
  go_ret
  unfold SvPost
  refine ⟨rfl, pl2, f2, _, V6, ?_, ?_, hpl2', HD8.out, ?_, hn3, by omega, HB8.out, HR8.out, HKW.out.keep HR8.out, HT8.out⟩
  · rw [HBB.out]; exact HP8.out
  · rw [← hd1n]; exact HG8.out
  · rw [HBB.out]; exact HSG.out
end Go.Proofs.Ytgkenknplepmeaa
