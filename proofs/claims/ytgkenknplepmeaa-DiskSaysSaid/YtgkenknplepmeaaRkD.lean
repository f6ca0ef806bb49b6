/-
  WALKS: the document's disk: Flush, Restart.
-/
import Derived.Test.YtgkenknplepmeaaRkC
import Derived.Test.YtgkenknplepmeaaDkS
import Derived.BigRegion
namespace Go.Proofs.Ytgkenknplepmeaa
open Go.RowKit

def RkE (w : World) (base q : Nat) (R : Rk) : Prop := ∃ VK VN VW, RkAt w base q VK VN VW R
set_option maxRecDepth 100000 in
set_option maxHeartbeats 1000000 in
theorem flushQ_any (base q : Nat) (VK VN VW : Value) (R : Rk) (w : World) (h : RkAt w base q VK VN VW R) (hl : -1 ≤ R.fuse ∧ R.fuse ≤ 9223372036854775807) (hn : R.now.length ≤ 120) (hn0 : 0 < R.now.length) :
    Calls Try.prog 23 #[ptr q] w fun e w' => e = .returned (.int .i64 (flushQ R).2) ∧ RkE w' base q (flushQ R).1 ∧ Below base w w' ∧ TyR w w' := by
  have HST := Lib.hid (stepQ_any base q VK VN VW R w h hl)
  have hbq := h.hq
  have hbw : base ≤ w.heap.size := Nat.le_trans h.hq (Nat.le_of_lt h.ltq)
  obtain ⟨n, hnn⟩ : ∃ n, R.now.length = n := ⟨_, rfl⟩
  have hon := h.now
  rw [hnn] at hon hn hn0
  obtain ⟨g, c, cur, rfl, hbg, _, hnc, hcm, _⟩ := own_open hon hn0
  have HSQ := Lib.hid h.st
  unfold maxLen at hcm
  clear hon h hl
  by_cases h0 : (stepQ R).2 = 0
  · have hq : (stepQ R).1.now = R.now := by unfold stepQ; split; exact rfl; split <;> exact rfl
    have HE := Lib.hid (show flushQ R = ({ (stepQ R).1 with kept := (stepQ R).1.now, wait := [] }, 0) by unfold flushQ; rw [if_neg (by simp [h0]), hq])
    have hn1 : (stepQ R).1.now.length = n := by rw [hq, hnn]
    rw [h0] at HST
    have HN1 := Lib.hid hn1
    clear h0 hq hnn hn1
    generalize (stepQ R).1 = R1 at *
    obtain ⟨i, hi, hz, hsz, hby⟩ := tx_parts
    have HI := Lib.hid hi
    have HZ := Lib.hid hz
    have HS := Lib.hid hsz
    have HB := Lib.hid hby
    clear hi hz hsz hby
    go_enter Try.func23, Try.ntmps23
    go_wp2_with fail
    refine HST.out.mono ?_
    rintro e w1 ⟨rfl, hd1, hu1⟩
    have c1 : w1.cell? ⟨q, 1, none⟩ = some (.slice (some ⟨g, 0, none⟩) n c) := hd1.st.cell 1
    have hon1 := hd1.now
    rw [HN1.out] at hon1
    have HX := Lib.hid (rdx_of_own hon1 (txC_one _))
    have HD1 := Lib.hid hd1
    have hw1 : base ≤ w1.heap.size := Nat.le_trans hbw hu1.size
    have HU1 := Lib.hid hu1
    clear hd1 hu1 hon1
    go_wp2_with (at_builtin; refine wpList_append_rd _ rfl (.const (.slice none 0 0)) (.tmp 13) _ rfl base tTx i _ 1 16 Try.underlying47 HI.out HZ.out HS.out HB.out rfl (by omega) (.slice none 0 0) 0 [] rfl (World.ownsRow_nil _ _ _ _) _ n c _ rfl HX.out (by unfold maxLen; omega) (by omega) hw1 ?_)
    intro v5 w5 own5 g5 loc5
    have hb5 : Blk w5 q tRk _ := HD1.out.st.grown g5 (fun e => by cases e)
    have f0 := hb5.free 0
    have c0 : w5.cell? ⟨q, 0, none⟩ = some VK := hb5.cell 0
    have hk5 := HD1.out.setKept (l := R1.now) g5 (by rw [HN1.out]; exact own5) loc5
    have hk6 := hk5.setWait (v := .slice none 0 0) (l := []) (World.grownBy.refl _ _) (World.ownsRow_nil _ _ _ _)
    have f2 := hk5.st.free 2
    have c2 : (w5.setCell ⟨q, 0, none⟩ v5).cell? ⟨q, 2, none⟩ = some VW := hk5.st.cell 2
    have HY := Lib.hid ((((TyR.of_upd HSQ.out HU1.out).trans (show TyR w1 w5 from fun g t _ hb _ _ _ => hb.grown g5 (fun e => by cases e))).trans (TyR.set (i := 0) hb5 (.inl rfl) v5)).trans (TyR.set (i := 2) hk5.st (.inl rfl) (.slice none 0 0)))
    have HBL := Lib.hid (((((HU1.out.below hbw (fun g e => by rw [e]; exact hbq)).trans ((Below.refl base w1).grown g5 hw1 (fun g' hg' => by cases hg'))).setCell (p := ⟨q, 0, none⟩) (by simpa using hbq) v5).setCell (p := ⟨q, 2, none⟩) (by simpa using hbq) (.slice none 0 0)))
    have HK6 := Lib.hid hk6
    obtain ⟨A5, k5, rfl⟩ := own_shape own5
    clear hb5 hk5 hk6 own5 g5 loc5
    go_wp2
    go_ret
    exact ⟨by rw [HE.out]; rfl, by rw [HE.out]; exact ⟨_, _, _, HK6.out⟩, HBL.out, HY.out⟩
  · have HE := Lib.hid (show flushQ R = stepQ R by unfold flushQ; rw [if_pos h0])
    have hpos : (stepQ R).2 = 11 := by
      unfold stepQ at h0 ⊢
      split
      · rfl
      · split
        · rfl
        · rename_i a b; rw [if_neg a, if_neg b] at h0; exact absurd rfl h0
    rw [hpos] at HST
    clear h0 hnn
    go_enter Try.func23, Try.ntmps23
    go_wp2_with fail
    refine HST.out.mono ?_
    rintro e w1 ⟨rfl, hd1, hu1⟩
    have HD1 := Lib.hid hd1
    have HU1 := Lib.hid hu1
    clear hd1 hu1
    go_wp2
    go_ret
    exact ⟨by rw [HE.out, hpos]; rfl, by rw [HE.out]; exact ⟨_, _, _, HD1.out⟩, HU1.out.below hbw (fun g e => by rw [e]; exact hbq), TyR.of_upd HSQ.out HU1.out⟩

/-- One sector that is kept is another. -/
theorem RkAt.setKeptAt {w : World} {base q : Nat} {VK VN VW : Value} {R : Rk} (h : RkAt w base q VK VN VW R) {g n c k : Nat} {s : ByteArray} (hV : VK = .slice (some ⟨g, 0, none⟩) n c) (hn : R.kept.length = n) (h0 : 0 < n) : RkAt (w.setCell ⟨g, k, none⟩ (.string s)) base q VK VN VW { R with kept := R.kept.set k s } := by
  subst hV
  have hon := h.kept
  rw [hn] at hon
  obtain ⟨g', c', cur, e, _, hb, _⟩ := own_open hon h0
  injection e with e1 e2 e3
  injection e1 with e1
  injection e1 with e1
  subst e1 e3
  refine ⟨h.hq, h.st.other (h.neK rfl) _, ?_, own_stands h.now (fun g2 cs hg2 hb2 => hb2.other (fun e => h.sep g rfl (by rw [hg2, e])) _), own_stands h.wait (fun g2 cs hg2 hb2 => hb2.other (fun e => by subst e; exact hb2.ne hb (by decide) rfl) _), h.sep⟩
  show (w.setCell ⟨g, k, none⟩ (.string s)).ownsRow base tTx 1 _ (R.kept.set k s).length (txC (R.kept.set k s))
  rw [List.length_set, hn]
  exact own_set hon h0
def RsRel (keep : Nat) (w0 : World) (base q : Nat) (VK VN VW : Value) (R : Rk) (i : Value) (wr : World) : Prop := ∃ j : Nat, j ≤ R.wait.length ∧ i = .int .i64 j ∧ RkAt wr base q VK VN VW { R with kept := keptQ keep R j } ∧ Below base w0 wr ∧ TyR w0 wr
theorem keptQ_hit {keep : Nat} {R : Rk} {j : Nat} {x : Nat × ByteArray} (h : R.wait[j]? = some x) (hb : keep.testBit (j % 64) = true) : keptQ keep R (j + 1) = (keptQ keep R j).set x.1 x.2 := by
  unfold keptQ
  show (match R.wait[j]? with
    | some x => if keep.testBit (j % 64) then (keptL keep R.kept R.wait j).set x.1 x.2 else keptL keep R.kept R.wait j
    | none => keptL keep R.kept R.wait j) = _
  rw [h]
  simp only [hb, if_true]
theorem keptQ_miss {keep : Nat} {R : Rk} {j : Nat} (hb : keep.testBit (j % 64) = false) : keptQ keep R (j + 1) = keptQ keep R j := by
  unfold keptQ
  show (match R.wait[j]? with
    | some x => if keep.testBit (j % 64) then (keptL keep R.kept R.wait j).set x.1 x.2 else keptL keep R.kept R.wait j
    | none => keptL keep R.kept R.wait j) = _
  rw [hb]
  split <;> rfl
theorem keptQ_len (keep : Nat) (R : Rk) : ∀ j, (keptQ keep R j).length = R.kept.length := by
  unfold keptQ
  intro j
  induction j with
  | zero => rfl
  | succ j ih =>
    unfold keptL
    split
    · split
      · rw [List.length_set, ih]
      · exact ih
    · exact ih
set_option maxRecDepth 100000 in
set_option maxHeartbeats 2000000 in
theorem restartQ_any (base q keep : Nat) (VK VN VW : Value) (R : Rk) (w : World) (h : RkAt w base q VK VN VW R) (hkp : keep < 2 ^ 64) (hn : R.kept.length ≤ 120) (hn0 : 0 < R.kept.length) (hw : R.wait.length ≤ 1000) (hwat : ∀ x ∈ R.wait, x.1 < R.kept.length) :
    Calls Try.prog 26 #[ptr q, .int .u64 keep] w fun e w' => e = .returned (.tuple #[]) ∧ RkE w' base q (restartQ keep R) ∧ Below base w w' ∧ TyR w w' := by
  have hbq := h.hq
  have hbw : base ≤ w.heap.size := Nat.le_trans h.hq (Nat.le_of_lt h.ltq)
  obtain ⟨n, hnn⟩ : ∃ n, R.kept.length = n := ⟨_, rfl⟩
  obtain ⟨m, hmm⟩ : ∃ m, R.wait.length = m := ⟨_, rfl⟩
  have hok := h.kept
  rw [hnn] at hok hn hn0 hwat
  obtain ⟨gk, ck, _, rfl, hbg, _, hnc, hcm, _⟩ := own_open hok hn0
  have how := h.wait
  rw [hmm] at how hw
  obtain ⟨Aw, cw, rfl⟩ := own_shape how
  unfold maxLen at hcm
  have HD := Lib.hid h
  have HWT := Lib.hid hwat
  have HNN := Lib.hid hnn
  have HMM := Lib.hid hmm
  clear hok how h hwat hnn hmm
  go_enter Try.func26, Try.ntmps26
  go_wp2
  go_loopw [4] (fun i wr => RsRel keep w base q (.slice (some ⟨gk, 0, none⟩) n ck) VN (.slice Aw m cw) R i wr) (fun i _ => m - (intOf i).toNat)
  case atStart => exact ⟨0, Nat.zero_le _, rfl, HD.out, Below.refl _ _, TyR.refl _⟩
  case round =>
    obtain ⟨j, hj, rfl, hd, hb, hy⟩ := hrel
    rw [HMM.out] at hj
    have c2 : wr.cell? ⟨q, 2, none⟩ = some (.slice Aw m cw) := hd.st.cell 2
    have c0 : wr.cell? ⟨q, 0, none⟩ = some (.slice (some ⟨gk, 0, none⟩) n ck) := hd.st.cell 0
    have HD1 := Lib.hid hd
    have HB1 := Lib.hid hb
    have HY1 := Lib.hid hy
    clear hd hb hy
    by_cases hlt : j < m
    · obtain ⟨x, hx⟩ : ∃ x, R.wait[j]? = some x := ⟨_, List.getElem?_eq_getElem (by have := HMM.out; omega)⟩
      have hxn := HWT.out x (List.mem_of_getElem? hx)
      have how := HD1.out.wait
      rw [show ({ R with kept := keptQ keep R j } : Rk).wait.length = m from HMM.out] at how
      obtain ⟨gw, cw', _, e, _⟩ := own_open how (by omega)
      injection e with e1 e2 e3
      subst e1 e3
      have t0 := own_cell how (tnC_at hx).1
      have t1 := own_cell how (tnC_at hx).2
      have hok := HD1.out.kept
      rw [show ({ R with kept := keptQ keep R j } : Rk).kept.length = n from (keptQ_len keep R j).trans HNN.out] at hok
      obtain ⟨g', c', cur, e, _, hbk, _, _, hcz, _⟩ := own_open hok hn0
      injection e with e1 e2 e3
      injection e1 with e1
      injection e1 with e1
      subst e1 e3
      have cK : wr.cell? ⟨gk, x.1, none⟩ = some (cur[x.1]'(by omega)) := by rw [hbk.cell, Array.getElem?_eq_getElem (by omega)]
      have fK := hbk.free x.1
      generalize cur[x.1]'(by omega) = oldv at cK
      have hjm : (j : Int) < (m : Int) := by omega
      have hxi : (x.1 : Int) < (n : Int) := by omega
      have hbt := bit_test keep (j % 64) hkp
      have HX := Lib.hid hx
      clear how hok hcz hx
      cases htb : keep.testBit (j % 64) with
      | true =>
        rw [htb] at hbt
        have hd5 := HD1.out.setKeptAt (k := x.1) (s := x.2) rfl ((keptQ_len keep R j).trans HNN.out) hn0
        rw [show (keptQ keep R j).set x.1 x.2 = keptQ keep R (j + 1) from (keptQ_hit HX.out htb).symm] at hd5
        have HD5 := Lib.hid hd5
        have HB5 := Lib.hid (HB1.out.setCell (p := ⟨gk, x.1, none⟩) (by simpa using hbg) (.string x.2))
        have HY5 := Lib.hid (HY1.out.trans (TyR.set (i := x.1) hbk (.inr (.inl rfl)) (.string x.2)))
        clear hd5 hbk htb HX HD1 HB1 HY1
        obtain ⟨x1, x2⟩ := x
        dsimp only at *
        go_wp2_with fail
        have mixed : Try.prog.follows .mixedOrders = true := by kernel_rfl
        go_big_region
        all_goals go_wp2
        refine ⟨⟨j + 1, by rw [HMM.out]; omega, by go_num, HD5.out.below (Below.refl _ _).drew, HB5.out.drew, HY5.out.drew⟩, by simp [intOf]; omega⟩
      | false =>
        rw [htb] at hbt
        go_wp2_with fail
        refine ⟨⟨j + 1, by rw [HMM.out]; omega, by go_num, by rw [keptQ_miss htb]; exact HD1.out, HB1.out, HY1.out⟩, by simp [intOf]; omega⟩
    · obtain rfl : j = m := by omega
      have hjj : decide ((j : Int) < (j : Int)) = false := decide_eq_false (by omega)
      have hd1 := HD1.out
      have hkl : (keptQ keep R j).length = n := (keptQ_len keep R j).trans HNN.out
      have hok := hd1.kept
      rw [show ({ R with kept := keptQ keep R j } : Rk).kept.length = n from hkl] at hok
      have HX := Lib.hid (rdx_of_own hok (txC_one _))
      obtain ⟨i, hi, hz, hsz, hby⟩ := tx_parts
      have HI := Lib.hid hi
      have HZ := Lib.hid hz
      have HS := Lib.hid hsz
      have HB := Lib.hid hby
      have hwr : base ≤ wr.heap.size := Nat.le_trans hbw HB1.out.size
      clear hi hz hsz hby hd1 hok
      go_wp2_with (at_builtin; refine wpList_append_rd _ rfl (.const (.slice none 0 0)) (.tmp 46) _ rfl base tTx i _ 1 16 Try.underlying47 HI.out HZ.out HS.out HB.out rfl (by omega) (.slice none 0 0) 0 [] rfl (World.ownsRow_nil _ _ _ _) _ n ck _ rfl HX.out (by unfold maxLen; omega) (by omega) hwr ?_)
      intro v5 w5 own5 g5 loc5
      have hb5 : Blk w5 q tRk _ := HD1.out.st.grown g5 (fun e => by cases e)
      have f1 := hb5.free 1
      have cc1 : w5.cell? ⟨q, 1, none⟩ = some VN := hb5.cell 1
      have hk5 := HD1.out.setNowV (l := keptQ keep R j) g5 (by rw [hkl]; exact own5) loc5
      have hk6 := hk5.setWait (v := .slice none 0 0) (l := []) (World.grownBy.refl _ _) (World.ownsRow_nil _ _ _ _)
      have f2 := hk5.st.free 2
      have cc2 : (w5.setCell ⟨q, 1, none⟩ v5).cell? ⟨q, 2, none⟩ = some (.slice Aw j cw) := hk5.st.cell 2
      have f4 := hk6.st.free 4
      have cc4 : ((w5.setCell ⟨q, 1, none⟩ v5).setCell ⟨q, 2, none⟩ (.slice none 0 0)).cell? ⟨q, 4, none⟩ = some (.bool R.down) := hk6.st.cell 4
      have hs7 := hk6.st.set 4 (.bool false)
      have f3 := hs7.free 3
      have cc3 : (((w5.setCell ⟨q, 1, none⟩ v5).setCell ⟨q, 2, none⟩ (.slice none 0 0)).setCell ⟨q, 4, none⟩ (.bool false)).cell? ⟨q, 3, none⟩ = some (.int .i64 R.fuse) := hs7.cell 3
      have hs8 := hs7.set 3 (.int .i64 (-1))
      have hk8 := hk6.struct (-1) false hs8 (((Upd.refl _ (fun k => k = q)).set (b := q) (i := 4) (.inr rfl) (.bool false)).set (b := q) (i := 3) (.inr rfl) (.int .i64 (-1)))
      have HY := Lib.hid (((((HY1.out.trans (show TyR wr w5 from fun g t _ hb _ _ _ => hb.grown g5 (fun e => by cases e))).trans (TyR.set (i := 1) hb5 (.inl rfl) v5)).trans (TyR.set (i := 2) hk5.st (.inl rfl) (.slice none 0 0))).trans (TyR.set (i := 4) hk6.st (.inl rfl) (.bool false))).trans (TyR.set (i := 3) hs7 (.inl rfl) (.int .i64 (-1))))
      have HBL := Lib.hid ((((((HB1.out).trans ((Below.refl base wr).grown g5 hwr (fun g' hg' => by cases hg'))).setCell (p := ⟨q, 1, none⟩) (by simpa using hbq) v5).setCell (p := ⟨q, 2, none⟩) (by simpa using hbq) (.slice none 0 0)).setCell (p := ⟨q, 4, none⟩) (by simpa using hbq) (.bool false)).setCell (p := ⟨q, 3, none⟩) (by simpa using hbq) (.int .i64 (-1)))
      have HK8 := Lib.hid (show RkAt _ base q _ v5 _ (restartQ keep R) from by unfold restartQ; rw [HMM.out]; exact hk8)
      obtain ⟨A5, k5, rfl⟩ := own_shape own5
      clear hb5 hk5 hk6 hk8 hs7 hs8 own5 g5 loc5
      go_wp2
      go_end0
      exact ⟨rfl, ⟨_, _, _, HK8.out⟩, HBL.out, HY.out⟩
end Go.Proofs.Ytgkenknplepmeaa
