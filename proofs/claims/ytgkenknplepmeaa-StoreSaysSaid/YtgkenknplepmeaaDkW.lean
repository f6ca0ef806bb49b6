/-
  WALK: package disk: Write.
-/
import Derived.Test.YtgkenknplepmeaaDkC
import Derived.Lib.LazyBuf
import Derived.StillTailTactics
namespace Go.Proofs.Ytgkenknplepmeaa
open Go.RowKit

theorem wpList_copy_string {P : Program} (w : World) {ops : Array Oper} {rest : List Oper} {o : Oper} {a : Act} {Q : Exit → Act → World → Prop} (hgd : o.guard = none) (d x : Operand) (dT sT elem : TypeId)
    (ho : o.op = .call { callee := .builtin .copy, args := #[d, x], argTypes := #[dT, sT] }) (hu : P.underlying dT = some (.slice elem)) (hz : ∀ w, (Go.sizeOf elem).run P w = .ok 1 w)
    (b off dLen dCap : Nat) (hd : a.eval d = .slice (some ⟨b, off, none⟩) dLen dCap) (t : ByteArray) (hx : a.eval x = .string t) (hle : t.size ≤ dLen)
    (hc : ∀ j, j < t.size → (w.cell? ⟨b, off + j, none⟩).isSome = true) (hf : ∀ j, j < t.size → w.frozen? ⟨b, off + j, none⟩ = false)
    (h : wpList P ops Q rest (a.put o.dst (goInt t.size)) (w.setCells b off (Lib.strCells t))) : wpList P ops Q (o :: rest) a w := by
  refine wpList_plain hgd fun K hK => ?_
  have hrun := run_copy_string (P := P) w dT sT o.type elem b off dLen dCap t hu hz hle hc hf
  unfold Oper.wp execOp
  simp only [ho, resolve, invoke, builtin, Sem.run_bind, Sem.run_pure, Result.andThen_ok, List.map_toArray, List.map_cons, List.map_nil, hd, hx, hrun]
  exact hK _ _ h
theorem still_load_mid {P : Program} {ops : Array Oper} {o : Oper} {rest : List Oper} {a : Act} {w : World} {Q : Act → Prop} (hgd : o.guard = none) (ty : TypeId) (x : Operand) (ho : o.op = .load ty x)
    (b off : Nat) (hx : a.eval x = .pointer (some ⟨b, off, none⟩)) (cs : List Value) (d : TypeDesc) (hc : w.rangeAt b off cs)
    (hu : P.underlying ty = some d) (hd : d.isRow = true) (hi : (P.info? ty).map (·.size) = some cs.length)
    (h : wpStill P ops w Q rest (a.put o.dst (.agg cs.toArray))) : wpStill P ops w Q (o :: rest) a := by
  refine wpStill_step (fun K hK => ?_)
  have hw : Region.wanted o (yielded ops a.tmps) = true := by simp [Region.wanted, hgd]
  rw [if_pos hw]
  have hr : (execOp a.eval o).run P w = .ok (.value (.agg cs.toArray)) w := by
    unfold execOp
    simp only [ho, hx, Instr.loadAt, Instr.sureAddr, Sem.run_bind, Sem.run_pure, Result.andThen_ok, run_loadVar_mid w b off ty cs d hc hu hd hi]
  unfold Oper.still
  rw [hr, Oper.stillUpon_value]
  exact hK _ h
theorem wt_zero : Try.zeroCells106 = (wrC (0, ⟨Array.replicate 340 0⟩)).toArray := by kernel_rfl
theorem wt_first (n : Nat) : (Try.zeroCells106.setIfInBounds 0 (.int .i64 n)).toList = wrC (n, ⟨Array.replicate 340 0⟩) := by
  rw [wt_zero, List.setIfInBounds_toArray]; unfold wrC; rw [List.set_cons_zero]
theorem padB_cells (s : ByteArray) : Lib.strCells (padB s) = Lib.strCells s ++ List.replicate (340 - s.size) (.int .u8 0) := by
  simp [Lib.strCells, padB]
/-- The write as it is laid: the number, the text, noughts. -/
theorem laid_write {w : World} {X n : Nat} {s : ByteArray} (hs : s.size ≤ 340) (h : w.rangeAt X 0 (wrC (n, ⟨Array.replicate 340 0⟩))) : (w.setCells X 1 (Lib.strCells s)).rangeAt X 0 (wrC (n, padB s)) := by
  have hl := Lib.strCells_length s
  intro j v hv
  rw [Nat.zero_add]
  rcases j with _ | j
  · rw [World.cell?_setCells_out X _ 1 w ⟨X, 0, none⟩ (fun _ _ => .inl (by show 0 < 1; omega))]
    have := h 0 v (by unfold wrC at hv ⊢; simpa using hv)
    rwa [Nat.zero_add] at this
  · have hv2 : (Lib.strCells s ++ List.replicate (340 - s.size) (.int .u8 0))[j]? = some v := by rw [← padB_cells]; unfold wrC at hv; simpa using hv
    by_cases hj : j < s.size
    · rw [List.getElem?_append_left (by omega)] at hv2
      have hsm : ∀ i, i < (Lib.strCells s).length → (w.cell? ⟨X, 1 + i, none⟩).isSome = true := fun i hi => by
        have := h.isSome (i + 1) (by rw [wrC_len (by simp [ByteArray.size])]; omega)
        rwa [Nat.zero_add, Nat.add_comm] at this
      have := World.cell?_setCells_in X (Lib.strCells s) 1 w hsm j (by omega)
      rw [Nat.add_comm 1 j] at this
      rw [this, ← hv2, List.getElem?_eq_getElem]
    · rw [List.getElem?_append_right (by omega), hl] at hv2
      rw [World.cell?_setCells_out X _ 1 w ⟨X, j + 1, none⟩ (fun _ _ => .inr (by rw [hl]; show 1 + s.size ≤ j + 1; omega))]
      have hj2 : j - s.size < 340 - s.size := by have := (List.getElem?_eq_some_iff.1 hv2).1; simpa using this
      have := h (j + 1) (.int .u8 0) (by
        unfold wrC
        rw [List.getElem?_cons_succ, nought_cells, List.getElem?_replicate, if_pos (by omega)])
      rw [Nat.zero_add] at this
      rw [this]
      rw [List.getElem?_replicate, if_pos hj2] at hv2
      exact hv2
set_option maxRecDepth 100000 in
set_option maxHeartbeats 2000000 in
theorem write_bad (base p B : Nat) (V : Nat → Value) (D : Dk) (at_ : Int) (s : ByteArray) (w : World) (h : DkAt w base p B V D) (hs : s.size ≤ 1000000) (hb : hasR D at_ = false ∨ 340 < s.size) :
    Calls Try.prog 18 #[ptr p, .int .i64 at_, .string s] w fun e w' => e = .returned (erV 1) ∧ w = w' := by
  have HH := Lib.hid (has_any base p B V D at_ w h)
  clear h
  cases hh : hasR D at_ with
  | false =>
    rw [hh] at HH
    clear hb hh
    go_enter Try.func18, Try.ntmps18
    go_wp2_with (go_at_call 60; refine HH.out.mono ?_; rintro e w' ⟨rfl, rfl⟩)
    go_ret
    exact ⟨rfl, rfl⟩
  | true =>
    rw [hh] at HH
    have h3 : 340 < s.size := by rcases hb with h | h; rw [h] at hh; cases hh; exact h
    have h4 : (340 : Int) < (s.size : Int) := by omega
    clear hb hh
    go_enter Try.func18, Try.ntmps18
    go_wp2_with (go_at_call 60; refine HH.out.mono ?_; rintro e w' ⟨rfl, rfl⟩)
    go_ret
    exact ⟨rfl, rfl⟩
set_option maxRecDepth 100000 in
set_option maxHeartbeats 400000 in
theorem write_good (base p B k : Nat) (V : Nat → Value) (D : Dk) (s : ByteArray) (w : World) (h : DkAt w base p B V D) (hs : s.size ≤ 340) (hk : k < D.n) (hl : -9223372036854775808 ≤ D.left ∧ D.left ≤ 9223372036854775807) (hn : ∀ x ∈ (D.sec k).ws, x.1 ≠ D.next) (hw : (D.sec k).ws.length ≤ 100000) :
    Calls Try.prog 18 #[ptr p, .int .i64 k, .string s] w fun e w' => e = .returned (erV (writeR D k s).2) ∧ (∃ V', DkAt w' base p B V' (writeR D k s).1) ∧ Below base w w' ∧ Ty w w' := by
  have hh : hasR D k = true := by unfold hasR; rw [decide_eq_true (by omega), decide_eq_true (by omega)]; rfl
  have hwr : writeR D k s = if (stepR D).2 ≠ 0 then stepR D else ({ (stepR D).1 with sec := updS D.sec k ⟨(D.sec k).dur, (D.sec k).ws ++ [(D.next, padB s)]⟩, next := (D.next + 1) % 64 }, 0) := by
    unfold writeR
    rw [if_neg (by rintro (h | h); rw [hh] at h; cases h; omega)]
    rfl
  have HH := Lib.hid (has_any base p B V D k w h)
  rw [hh] at HH
  have HST := Lib.hid (step_any base p B V D w h hl)
  have hd : decide ((340 : Int) < (s.size : Int)) = false := decide_eq_false (by omega)
  have hbp := h.hp
  have HDK := Lib.hid h.dk
  have hbw : base ≤ w.heap.size := Nat.le_trans h.hp (Nat.le_of_lt h.ltp)
  by_cases h0 : (stepR D).2 = 0
  · rw [if_neg (by simp [h0])] at hwr
    have hst1 : stepR D = ({ D with left := if 0 < D.left then D.left - 1 else D.left }, 0) := by
      unfold stepR at h0 ⊢
      split at h0
      · cases h0
      · rename_i hx; rw [if_neg hx]
    have HWR := Lib.hid hwr
    clear hwr hh h
    rw [hst1] at HST
    dsimp only at HST
    generalize hD1 : ({ D with left := if 0 < D.left then D.left - 1 else D.left } : Dk) = D1 at HST
    have e1 : D1.sec = D.sec := by rw [← hD1]
    have e2 : D1.n = D.n := by rw [← hD1]
    have e3 : D1.next = D.next := by rw [← hD1]
    have HE := Lib.hid (show writeR D k s = ({ D1 with sec := updS D1.sec k ⟨(D1.sec k).dur, (D1.sec k).ws ++ [(D1.next, padB s)]⟩, next := (D1.next + 1) % 64 }, 0) by rw [HWR.out, hst1, ← hD1])
    rw [← e1] at hn hw
    rw [← e2] at hk
    rw [← e3] at hn
    have HN := Lib.hid hn
    clear hD1 hst1 h0 hl HWR e1 e2 e3 hn
    go_enter Try.func18, Try.ntmps18
    go_wp2_with (go_at_call 60; refine HH.out.mono ?_; rintro e w' ⟨rfl, rfl⟩)
    refine HST.out.mono ?_
    rintro e w1 ⟨rfl, hd1, hu1⟩
    rw [show erV 0 = .nilIface from rfl]
    have c3 : w1.cell? ⟨p, 3, none⟩ = some (.int .i64 D1.next) := hd1.dk.cell 3
    have hnx := hd1.nx
    have hBl := hd1.ltB
    have hbase : base ≤ w1.heap.size := Nat.le_trans hd1.hB (Nat.le_of_lt hBl)
    have hz : Try.zeroCells106.size = 341 := by kernel_rfl
    have hszc : (Try.zeroCells106.setIfInBounds 0 (.int .i64 D1.next)).size = 341 := by simp [hz]
    have hth : (w1.alloc (.cells Try.zeroCells106 tWt)).there w1.heap.size 0 341 := fun j hj => by
      refine ⟨?_, (Blk.new w1 tWt _).free _⟩
      rw [(Blk.new w1 tWt _).cell, Array.getElem?_eq_getElem (by omega)]
      rfl
    have hlz : (wrC (D1.next, (⟨Array.replicate 340 0⟩ : ByteArray))).length = 341 := wrC_len (by simp [ByteArray.size])
    have hone : (Try.zeroCells106.setIfInBounds 0 (.int .i64 D1.next)).all (·.oneCell') = true := by
      rw [← Array.toArray_toList (xs := Try.zeroCells106.setIfInBounds 0 (.int .i64 D1.next)), wt_first]
      exact all_oneCell_toArray (wrC_one _)
    have hr1 := World.rangeAt_setCells_same (w1.alloc (.cells Try.zeroCells106 tWt)) w1.heap.size 0 (wrC (D1.next, ⟨Array.replicate 340 0⟩)) (by rw [hlz]; exact hth)
    have hr2 := laid_write hs hr1
    have hth2 := World.there_setCells hth w1.heap.size 0 (wrC (D1.next, ⟨Array.replicate 340 0⟩))
    have hcc : ∀ j, j < s.size → (((w1.alloc (.cells Try.zeroCells106 tWt)).setCells w1.heap.size 0 (wrC (D1.next, ⟨Array.replicate 340 0⟩))).cell? ⟨w1.heap.size, 1 + j, none⟩).isSome = true := fun j hj => by
      have := (hth2 (1 + j) (by omega)).1; rwa [Nat.zero_add] at this
    have hcf : ∀ j, j < s.size → ((w1.alloc (.cells Try.zeroCells106 tWt)).setCells w1.heap.size 0 (wrC (D1.next, ⟨Array.replicate 340 0⟩))).frozen? ⟨w1.heap.size, 1 + j, none⟩ = false := fun j hj => by
      have := (hth2 (1 + j) (by omega)).2; rwa [Nat.zero_add] at this
    have hb3 : Below w1.heap.size w1 (((w1.alloc (.cells Try.zeroCells106 tWt)).setCells w1.heap.size 0 (wrC (D1.next, ⟨Array.replicate 340 0⟩))).setCells w1.heap.size 1 (Lib.strCells s)) := below_cells (Nat.le_refl _) _ _ _ (below_cells (Nat.le_refl _) _ _ _ ((Below.refl _ _).alloc (Nat.le_refl _) _))
    have h3 : DkAt (((w1.alloc (.cells Try.zeroCells106 tWt)).setCells w1.heap.size 0 (wrC (D1.next, ⟨Array.replicate 340 0⟩))).setCells w1.heap.size 1 (Lib.strCells s)) base p B V D1 := hd1.keep (fun g _ hg => hb3.block g hg)
    have HT := Lib.hid (show (w1.alloc (.cells Try.zeroCells106 tWt)).there w1.heap.size 0 (Try.zeroCells106.setIfInBounds 0 (.int .i64 D1.next)).size by rw [hszc]; exact hth)
    have HI := Lib.hid (show (Try.prog.info? tWt).map (·.size) = some (Try.zeroCells106.setIfInBounds 0 (.int .i64 D1.next)).size by rw [hszc]; exact wt_info)
    have HO := Lib.hid hone
    have HCC := Lib.hid hcc
    have HCF := Lib.hid hcf
    have HR2 := Lib.hid hr2
    have H3 := Lib.hid h3
    have HB3 := Lib.hid (show Below base w (((w1.alloc (.cells Try.zeroCells106 tWt)).setCells w1.heap.size 0 (wrC (D1.next, ⟨Array.replicate 340 0⟩))).setCells w1.heap.size 1 (Lib.strCells s)) from (hu1.below hbw (fun g e => by rw [e]; exact hbp)).trans (hb3.mono hbase))
    have hst : (storeCells ⟨w1.heap.size, 0, none⟩ (Try.zeroCells106.toList.set 0 (.int .i64 D1.next))).run Try.prog (w1.alloc (.cells Try.zeroCells106 tWt)) = .ok () ((w1.alloc (.cells Try.zeroCells106 tWt)).setCells w1.heap.size 0 (wrC (D1.next, ⟨Array.replicate 340 0⟩))) := by
      have e : Try.zeroCells106.toList.set 0 (.int .i64 D1.next) = wrC (D1.next, ⟨Array.replicate 340 0⟩) := by rw [← wt_first, Array.toList_setIfInBounds]
      rw [e]
      exact run_storeCells_cells (P := Try.prog) w1.heap.size 0 (wrC (D1.next, ⟨Array.replicate 340 0⟩)) 0 _ (fun j hj => by rw [hlz] at hj; have := (hth j hj).1; rw [Nat.zero_add] at this; rw [show 0 + 0 + j = j by omega]; exact this) (fun j hj => by rw [hlz] at hj; have := (hth j hj).2; rw [Nat.zero_add] at this; rw [show 0 + 0 + j = j by omega]; exact this) (wrC_one _)
    have HY3 := Lib.hid ((Ty.of_upd HDK.out hu1).trans (Ty.of_below hb3))
    clear hd1 hu1 hz hszc hth hlz hone hr1 hr2 hth2 hcc hcf hb3 h3 HT HI HO
    have hzs : ∀ w, (Go.sizeOf 5).run Try.prog w = .ok 1 w := fun w => by kernel_rfl
    have hcp := run_copy_string (P := Try.prog) ((w1.alloc (.cells Try.zeroCells106 tWt)).setCells w1.heap.size 0 (wrC (D1.next, ⟨Array.replicate 340 0⟩))) 107 9 3 5 w1.heap.size 1 340 340 s Try.underlying107 hzs hs HCC.out HCF.out
    rw [show (s.data.toList.map fun x => Value.int .u8 (x.toNat : Int)) = Lib.strCells s from rfl] at hcp
    clear hzs HCC HCF
    go_wp2_with fail
    generalize ((w1.alloc (.cells Try.zeroCells106 tWt)).setCells w1.heap.size 0 (wrC (D1.next, ⟨Array.replicate 340 0⟩))).setCells w1.heap.size 1 (Lib.strCells s) = w3 at *
    clear hst hcp c3
    have c0 : w3.cell? ⟨p, 0, none⟩ = some (.slice (some ⟨B, 0, none⟩) D1.n D1.n) := H3.out.dk.cell 0
    have hki : (k : Int) < (D1.n : Int) := by omega
    have HIW := Lib.hid (show (Try.prog.info? tWt).map (·.size) = some (wrC (D1.next, padB s)).length by rw [wrC_len (padB_size hs)]; exact wt_info)
    have H4 := Lib.hid (show DkAt w3.drew base p B V D1 from H3.out.keep (fun _ _ _ => rfl))
    refine wp_region_still_tail 7 (by kernel_rfl) (by kernel_rfl) ?_
    simp only [List.take_succ_cons, List.take_zero, List.drop_succ_cons, List.drop_zero]
    change wpStill _ _ w3.drew _ _ _
    still_step
    still_step
    still_step
    still_step
    still_step
    still_step
    refine still_load_mid rfl tWt (.tmp 8) rfl w1.heap.size 0 rfl (wrC (D1.next, padB s)) _ HR2.out Try.underlying106 rfl HIW.out ?_
    refine wpStill_nil ?_
    have HA := Lib.hid (add_any base p B k D1.next V D1 (padB s) w3.drew H4.out hk hnx (padB_size hs) HN.out hw)
    generalize (wrC (D1.next, padB s)).toArray = cs at *
    clear HIW HR2 H3 H4 HN
    go_wp2_with (go_at_call 62; refine HA.out.mono ?_; rintro e w5 ⟨rfl, ⟨V5, h5⟩, hb5, hy5⟩; have HY5 := Lib.hid ((HY3.out.drew.trans hy5).trans (Ty.setP (i := 3) h5.dk (.int .i64 (((D1.next + 1) % 64 : Nat) : Int)))); clear hy5; have c5 : w5.cell? ⟨p, 3, none⟩ = some (.int .i64 D1.next) := h5.dk.cell 3; have f5 := h5.dk.free 3; have H5 := Lib.hid h5; have HB5 := Lib.hid ((HB3.out.drew).trans hb5); clear h5 hb5)
    go_ret
    have e64 : (((D1.next : Int) + 1) % 64) = (((D1.next + 1) % 64 : Nat) : Int) := by omega
    refine ⟨by rw [HE.out]; rfl, ⟨V5, ?_⟩, ?_, HY5.out⟩
    · rw [HE.out]
      exact H5.out.upd _ _ _ (Nat.mod_lt _ (by omega)) (by have := H5.out.dk.set 3 (.int .i64 (((D1.next + 1) % 64 : Nat) : Int)); exact this) (upd_setp _)
    · exact HB5.out.setCell (by simpa using hbp) _
  · have HWR := Lib.hid (show writeR D k s = stepR D by rw [hwr, if_pos h0])
    have herr : erV (stepR D).2 = .iface 96 (.int .i64 (stepR D).2) := by unfold erV; rw [if_neg h0]
    rw [herr] at HST
    clear hwr hh h hn hl h0
    go_enter Try.func18, Try.ntmps18
    go_wp2_with (first | (go_at_call 60; refine HH.out.mono ?_; rintro e w' ⟨rfl, rfl⟩) | (go_at_call 61; refine HST.out.mono ?_; rintro e w1 ⟨rfl, hd1, hu1⟩; have HD1 := Lib.hid hd1; have HU1 := Lib.hid hu1; clear hd1 hu1))
    go_ret
    exact ⟨by rw [HWR.out, herr]; rfl, ⟨V, by rw [HWR.out]; exact HD1.out⟩, HU1.out.below hbw (fun g e => by rw [e]; exact hbp), Ty.of_upd HDK.out HU1.out⟩
end Go.Proofs.Ytgkenknplepmeaa
