/-
  WALKS: the document's disk: Write, Flush.
-/
import Derived.Test.YtgkenknplepmeaaRkA
namespace Go.Proofs.Ytgkenknplepmeaa
open Go.RowKit

theorem own_open {w : World} {base : Nat} {e : TypeId} {s : Nat} {v : Value} {n : Nat} {xs : List Value} (h : w.ownsRow base e s v n xs) (hn : 0 < n) : ∃ g c cur, v = .slice (some ⟨g, 0, none⟩) n c ∧ base ≤ g ∧ Blk w g e cur ∧ n ≤ c ∧ c ≤ maxLen ∧ cur.size = c * s ∧ cur.toList.take (n * s) = xs := by
  rcases h.2 with ⟨_, h⟩ | ⟨g, cap, cur, e, h1, h2, h3, h4, h5, h6⟩
  · omega
  · exact ⟨g, cap, cur, e, h1, h2, h3, h4, h5, h6⟩
theorem own_set {w : World} {base n g c k : Nat} {l : List ByteArray} {s : ByteArray} (h : w.ownsRow base tTx 1 (.slice (some ⟨g, 0, none⟩) n c) n (txC l)) (hn : 0 < n) : (w.setCell ⟨g, k, none⟩ (.string s)).ownsRow base tTx 1 (.slice (some ⟨g, 0, none⟩) n c) n (txC (l.set k s)) := by
  obtain ⟨g', c', cur, e, h1, h2, h3, h4, h5, h6⟩ := own_open h hn
  injection e with e1 e2 e3
  injection e1 with e1
  injection e1 with e1
  subst e1 e3
  refine ⟨by have := h.1; rw [txC_len] at this ⊢; rw [List.length_set]; exact this, .inr ⟨g, c, cur.setIfInBounds k (.string s), rfl, h1, h2.set k _, h3, h4, by rw [Array.size_setIfInBounds]; exact h5, ?_⟩⟩
  rw [Array.toList_setIfInBounds, List.take_set, h6]
  unfold txC
  rw [List.map_set]
theorem rdx_of_own {w : World} {base : Nat} {e : TypeId} {s : Nat} {A : Option Addr} {n c : Nat} {xs : List Value} (h : w.ownsRow base e s (.slice A n c) n xs) (h1 : ∀ u ∈ xs, u.oneCell' = true) : RdX w s A n xs :=
  ⟨h.1, h1, fun hn => by
    obtain ⟨g, c', cur, e, _⟩ := own_open h hn
    injection e with e1 e2 e3
    subst e1 e3
    exact ⟨g, 0, rfl, fun j u hu => by have := h.cells (g := g) rfl j u hu; rwa [Go.WideShapes.add_plain] at this⟩⟩
theorem pad_eq {s : ByteArray} : s ++ noughtB (340 - s.size) = padB s := by apply ByteArray.ext; rw [ByteArray.data_append]; rfl

section
variable {w w' : World} {base q : Nat} {VK VN VW : Value} {R : Rk}
theorem RkAt.ltq (h : RkAt w base q VK VN VW R) : q < w.heap.size := h.st.lt
theorem RkAt.neN (h : RkAt w base q VK VN VW R) {g : Nat} (hg : VN.ownBlock = some g) : q ≠ g := fun e => own_block_ne h.now h.st (by decide) (by rw [hg, e])
theorem RkAt.neK (h : RkAt w base q VK VN VW R) {g : Nat} (hg : VK.ownBlock = some g) : q ≠ g := fun e => own_block_ne h.kept h.st (by decide) (by rw [hg, e])
theorem RkAt.neW (h : RkAt w base q VK VN VW R) {g : Nat} (hg : VW.ownBlock = some g) : q ≠ g := fun e => own_block_ne h.wait h.st (by decide) (by rw [hg, e])
/-- One sector as it reads now is another. -/
theorem RkAt.setNow (h : RkAt w base q VK VN VW R) {g n c k : Nat} {s : ByteArray} (hV : VN = .slice (some ⟨g, 0, none⟩) n c) (hn : R.now.length = n) (h0 : 0 < n) : RkAt (w.setCell ⟨g, k, none⟩ (.string s)) base q VK VN VW { R with now := R.now.set k s } := by
  subst hV
  have hon := h.now
  rw [hn] at hon
  obtain ⟨g', c', cur, e, _, hb, _⟩ := own_open hon h0
  injection e with e1 e2 e3
  injection e1 with e1
  injection e1 with e1
  subst e1 e3
  refine ⟨h.hq, h.st.other (h.neN rfl) _, own_stands h.kept (fun g2 cs hg2 hb2 => hb2.other (fun e => h.sep g2 hg2 (by rw [e]; rfl)) _), ?_, own_stands h.wait (fun g2 cs hg2 hb2 => hb2.other (fun e => by subst e; exact hb2.ne hb (by decide) rfl) _), h.sep⟩
  show (w.setCell ⟨g, k, none⟩ (.string s)).ownsRow base tTx 1 _ (R.now.set k s).length (txC (R.now.set k s))
  rw [List.length_set, hn]
  exact own_set hon h0
/-- The writes that wait are others. -/
theorem RkAt.setWait (h : RkAt w base q VK VN VW R) {v : Value} {l : TN} (hg : w.grownBy w' VW.ownBlock) (ho : w'.ownsRow base tTn 2 v l.length (tnC l)) : RkAt (w'.setCell ⟨q, 2, none⟩ v) base q VK VN v { R with wait := l } := by
  have hs : Blk w' q tRk #[VK, VN, VW, .int .i64 R.fuse, .bool R.down] := h.st.grown hg (fun e => h.neW e rfl)
  have hs2 := hs.set 2 v
  have hk : ∀ {e : TypeId} {g : Nat} {cs : Array Value}, e ≠ tTn → e ≠ tRk → Blk w g e cs → Blk (w'.setCell ⟨q, 2, none⟩ v) g e cs := fun h1 h2 hb => (hb.grown hg (own_block_ne h.wait hb h1)).other (fun e => by subst e; exact hb.ne h.st h2 rfl) _
  refine ⟨h.hq, hs2, own_stands h.kept (fun g cs _ hb => hk (by decide) (by decide) hb), own_stands h.now (fun g cs _ hb => hk (by decide) (by decide) hb), own_stands ho (fun g cs _ hb => hb.other (fun e => by subst e; exact hb.ne hs (by decide) rfl) _), h.sep⟩
/-- What is kept is a new row. -/
theorem RkAt.setKept (h : RkAt w base q VK VN VW R) {v : Value} {l : List ByteArray} (hg : w.grownBy w' none) (ho : w'.ownsRow base tTx 1 v l.length (txC l)) (hn : v.ownBlock = none ∨ v.ownBlock = some w.heap.size) : RkAt (w'.setCell ⟨q, 0, none⟩ v) base q v VN VW { R with kept := l } := by
  have hs : Blk w' q tRk #[VK, VN, VW, .int .i64 R.fuse, .bool R.down] := h.st.grown hg (fun e => by cases e)
  have hs2 := hs.set 0 v
  have hk : ∀ {e : TypeId} {g : Nat} {cs : Array Value}, e ≠ tRk → Blk w g e cs → Blk (w'.setCell ⟨q, 0, none⟩ v) g e cs := fun h2 hb => (hb.grown hg (fun e => by cases e)).other (fun e => by subst e; exact hb.ne h.st h2 rfl) _
  refine ⟨h.hq, hs2, own_stands ho (fun g cs _ hb => hb.other (fun e => by subst e; exact hb.ne hs (by decide) rfl) _), own_stands h.now (fun g cs _ hb => hk (by decide) hb), own_stands h.wait (fun g cs _ hb => hk (by decide) hb), fun g hg e => ?_⟩
  have := (h.now.lt g e).2
  rcases hn with e2 | e2
  · rw [e2] at hg; cases hg
  · rw [e2] at hg; injection hg with hg; omega
theorem RkAt.setNowV (h : RkAt w base q VK VN VW R) {v : Value} {l : List ByteArray} (hg : w.grownBy w' none) (ho : w'.ownsRow base tTx 1 v l.length (txC l)) (hn : v.ownBlock = none ∨ v.ownBlock = some w.heap.size) : RkAt (w'.setCell ⟨q, 1, none⟩ v) base q VK v VW { R with now := l } := by
  have hs : Blk w' q tRk #[VK, VN, VW, .int .i64 R.fuse, .bool R.down] := h.st.grown hg (fun e => by cases e)
  have hs2 := hs.set 1 v
  have hk : ∀ {e : TypeId} {g : Nat} {cs : Array Value}, e ≠ tRk → Blk w g e cs → Blk (w'.setCell ⟨q, 1, none⟩ v) g e cs := fun h2 hb => (hb.grown hg (fun e => by cases e)).other (fun e => by subst e; exact hb.ne h.st h2 rfl) _
  refine ⟨h.hq, hs2, own_stands h.kept (fun g cs _ hb => hk (by decide) hb), own_stands ho (fun g cs _ hb => hb.other (fun e => by subst e; exact hb.ne hs (by decide) rfl) _), own_stands h.wait (fun g cs _ hb => hk (by decide) hb), fun g hg e => ?_⟩
  have := (h.kept.lt g hg).2
  rcases hn with e2 | e2
  · rw [e2] at e; cases e
  · rw [e2] at e; injection e with e; omega
end
theorem tx_parts : ∃ i, Try.prog.info? tTx = some i ∧ i.zero = some (.string ByteArray.empty) ∧ i.size = 1 ∧ i.bytes = 16 := by
  have h : (Try.prog.info? tTx).map (fun i => (i.zero, i.size, i.bytes)) = some (some (.string ByteArray.empty), 1, 16) := by kernel_rfl
  cases e : Try.prog.info? tTx with
  | none => rw [e] at h; cases h
  | some i =>
    rw [e] at h
    simp only [Option.map_some, Option.some.injEq, Prod.mk.injEq] at h
    exact ⟨i, rfl, h.1, h.2.1, h.2.2⟩
theorem tn_parts : ∃ i, Try.prog.info? tTn = some i ∧ i.zero = some (.agg #[.int .i64 0, .string ByteArray.empty]) ∧ i.size = 2 ∧ i.bytes = 24 := by
  have h : (Try.prog.info? tTn).map (fun i => (i.zero, i.size, i.bytes)) = some (some (.agg #[.int .i64 0, .string ByteArray.empty]), 2, 24) := by kernel_rfl
  cases e : Try.prog.info? tTn with
  | none => rw [e] at h; cases h
  | some i =>
    rw [e] at h
    simp only [Option.map_some, Option.some.injEq, Prod.mk.injEq] at h
    exact ⟨i, rfl, h.1, h.2.1, h.2.2⟩

set_option maxRecDepth 100000 in
set_option maxHeartbeats 1000000 in
theorem writeQ_bad (base q : Nat) (VK VN VW : Value) (R : Rk) (a : Int) (s : ByteArray) (w : World) (h : RkAt w base q VK VN VW R) (hn : R.now.length ≤ 120) (hs : s.size ≤ 1000000) (hc : hasQ R a = false ∨ 340 < s.size) :
    Calls Try.prog 19 #[ptr q, .int .i64 a, .string s] w fun e w' => e = .returned (.int .i64 1) ∧ w = w' := by
  have c1 : w.cell? ⟨q, 1, none⟩ = some VN := h.st.cell 1
  have ho := h.now
  obtain ⟨n, hnn⟩ : ∃ n, R.now.length = n := ⟨_, rfl⟩
  rw [hnn] at ho hn
  obtain ⟨A, c, rfl⟩ := own_shape ho
  unfold hasQ at hc
  rw [hnn] at hc
  clear h ho hnn
  by_cases h0 : a < 0
  · have d0 : decide (a < 0) = true := decide_eq_true h0
    clear hc
    go_enter Try.func19, Try.ntmps19
    go_wp2
    go_ret
    exact ⟨rfl, rfl⟩
  · have d0 : decide (a < 0) = false := decide_eq_false h0
    by_cases h1 : a < n
    · have d1 : decide ((n : Int) ≤ a) = false := decide_eq_false (by omega)
      have h2 : (340 : Int) < (s.size : Int) := by
        rcases hc with hc | hc
        · rw [decide_eq_true (show (0 : Int) ≤ a by omega), decide_eq_true h1] at hc; cases hc
        · omega
      clear hc
      go_enter Try.func19, Try.ntmps19
      go_wp2
      go_ret
      exact ⟨rfl, rfl⟩
    · have d1 : decide ((n : Int) ≤ a) = true := decide_eq_true (by omega)
      clear hc
      go_enter Try.func19, Try.ntmps19
      go_wp2
      go_ret
      exact ⟨rfl, rfl⟩

set_option maxRecDepth 100000 in
set_option maxHeartbeats 1000000 in
theorem writeQ_good (base q k : Nat) (VK VN VW : Value) (R : Rk) (s : ByteArray) (w : World) (h : RkAt w base q VK VN VW R) (hl : -1 ≤ R.fuse ∧ R.fuse ≤ 9223372036854775807) (hn : R.now.length ≤ 120) (hw : R.wait.length ≤ 1000) (hs : s.size ≤ 340) (hk : k < R.now.length) :
    Calls Try.prog 19 #[ptr q, .int .i64 k, .string s] w fun e w' => e = .returned (.int .i64 (writeQ R k s).2) ∧ (∃ VW', RkAt w' base q VK VN VW' (writeQ R k s).1) ∧ Below base w w' ∧ TyR w w' := by
  have hh : hasQ R k = true := by unfold hasQ; rw [decide_eq_true (by omega), decide_eq_true (by omega)]; rfl
  have hwr : writeQ R k s = if (stepQ R).2 ≠ 0 then stepQ R else ({ (stepQ R).1 with now := R.now.set k (padB s), wait := R.wait ++ [(k, padB s)] }, 0) := by
    unfold writeQ
    rw [if_neg (by rintro (h | h); rw [hh] at h; cases h; omega)]
    rfl
  have HST := Lib.hid (stepQ_any base q VK VN VW R w h hl)
  have c1 : w.cell? ⟨q, 1, none⟩ = some VN := h.st.cell 1
  have hbq := h.hq
  have hbw : base ≤ w.heap.size := Nat.le_trans h.hq (Nat.le_of_lt h.ltq)
  obtain ⟨n, hnn⟩ : ∃ n, R.now.length = n := ⟨_, rfl⟩
  have hon := h.now
  rw [hnn] at hon hn hk
  obtain ⟨g, c, cur, rfl, hbg, _, hnc, hcm, _⟩ := own_open hon (by omega)
  have HSQ := Lib.hid h.st
  have d0 : decide ((k : Int) < 0) = false := decide_eq_false (by omega)
  have d1 : decide ((n : Int) ≤ (k : Int)) = false := decide_eq_false (by omega)
  have d2 : decide ((340 : Int) < (s.size : Int)) = false := decide_eq_false (by omega)
  have hkn : (k : Int) < (n : Int) := by omega
  have HWR := Lib.hid hwr
  unfold maxLen at hcm
  clear hh hwr hon h hl
  by_cases h0 : (stepQ R).2 = 0
  · have hq : (stepQ R).1.now = R.now ∧ (stepQ R).1.wait = R.wait ∧ (stepQ R).1.kept = R.kept := by unfold stepQ; split; exact ⟨rfl, rfl, rfl⟩; split <;> exact ⟨rfl, rfl, rfl⟩
    have HE := Lib.hid (show writeQ R k s = ({ (stepQ R).1 with now := (stepQ R).1.now.set k (padB s), wait := (stepQ R).1.wait ++ [(k, padB s)] }, 0) by rw [HWR.out, if_neg (by simp [h0]), hq.1, hq.2.1])
    have hn1 : (stepQ R).1.now.length = n := by rw [hq.1, hnn]
    have hw1 : (stepQ R).1.wait.length ≤ 1000 := by rw [hq.2.1]; exact hw
    rw [h0] at HST
    have HN1 := Lib.hid hn1
    clear h0 hq HWR hnn hn1 hw
    generalize (stepQ R).1 = R1 at *
    obtain ⟨i, hi, hz, hsz, hby⟩ := tn_parts
    have HI := Lib.hid hi
    have HZ := Lib.hid hz
    have HS := Lib.hid hsz
    have HB := Lib.hid hby
    clear hi hz hsz hby
    obtain ⟨m, hm⟩ : ∃ m, 340 - s.size = m := ⟨_, rfl⟩
    have hmi : (340 : Int) - (s.size : Int) = (m : Int) := by omega
    have hmw : IntKind.i64.wrap ((340 : Int) - (s.size : Int)) = (m : Int) := by rw [IntKind.wrap_i64]; omega
    have HNO := Lib.hid (fun W => noughts_any m W (by omega))
    have hov : ¬ 9223372036854775807 < s.size + (noughtB m).size := by
      have : (noughtB m).size = m := by show (Array.replicate m (0 : UInt8)).size = m; simp
      omega
    have HPD := Lib.hid (show s ++ noughtB m = padB s by rw [← hm]; exact pad_eq)
    clear hm
    go_enter Try.func19, Try.ntmps19
    go_wp2_with (go_at_call 63; refine HST.out.mono ?_; rintro e w1 ⟨rfl, hd1, hu1⟩; have HD1 := Lib.hid hd1; have HU1 := Lib.hid hu1; clear hd1 hu1)
    refine (HNO.out _).mono ?_
    rintro e w2 ⟨rfl, hb2⟩
    have hd2 := HD1.out.below hb2
    have HD2 := Lib.hid hd2
    have cc1 : w2.cell? ⟨q, 1, none⟩ = some (.slice (some ⟨g, 0, none⟩) n c) := hd2.st.cell 1
    have hon2 := hd2.now
    rw [HN1.out] at hon2
    obtain ⟨g', c', cur', e', _, hbk2, _, _, hcz2, _⟩ := own_open hon2 (by omega)
    injection e' with e1 e2 e3
    injection e1 with e1
    injection e1 with e1
    subst e1 e3
    have cN : w2.cell? ⟨g, k, none⟩ = some (cur'[k]'(by omega)) := by rw [hbk2.cell, Array.getElem?_eq_getElem (by omega)]
    have fN := hbk2.free k
    generalize cur'[k]'(by omega) = oldv at cN
    have HB2 := Lib.hid hb2
    clear hd2 hon2 hcz2 hb2
    have hd3 := HD2.out.setNow (k := k) (s := s ++ noughtB m) rfl HN1.out (by omega)
    obtain ⟨Aw, cw, rfl⟩ := own_shape hd3.wait
    obtain ⟨nw, hnw⟩ : ∃ nw, R1.wait.length = nw := ⟨_, rfl⟩
    have hnw2 : nw ≤ 1000 := by omega
    rw [show ({ R1 with now := R1.now.set k (s ++ noughtB m) } : Rk).wait.length = nw from hnw] at hd3
    have hd4 : RkAt ((w2.setCell ⟨g, k, none⟩ (.string (s ++ noughtB m))).alloc (.cells #[.int .i64 (k : Int), .string (s ++ noughtB m)] tTn)) base q VK (.slice (some ⟨g, 0, none⟩) n c) (.slice Aw nw cw) { R1 with now := R1.now.set k (s ++ noughtB m) } := hd3.below ((Below.refl _ _).alloc (Nat.le_refl _) _)
    have c2 : (w2.setCell ⟨g, k, none⟩ (.string (s ++ noughtB m))).cell? ⟨q, 2, none⟩ = some (.slice Aw nw cw) := hd3.st.cell 2
    have HYA := Lib.hid (((TyR.of_upd HSQ.out HU1.out).trans (TyR.of_below HB2.out)).trans (TyR.set (i := k) hbk2 (.inr (.inl rfl)) (.string (s ++ noughtB m))))
    have HBA := Lib.hid (((HU1.out.below hbw (fun g e => by rw [e]; exact hbq)).trans (HB2.out.mono (Nat.le_trans hbw HU1.out.size))).setCell (p := ⟨g, k, none⟩) (by simpa using hbg) (.string (s ++ noughtB m)))
    have HD4 := Lib.hid hd4
    have HNW := Lib.hid hnw
    clear hd3 hd4 hbk2 hnw
    go_wp2_with (at_builtin; refine wpList_append_rd _ rfl (.tmp 46) (.tmp 50) _ rfl base tTn i _ 2 24 Try.underlying48 HI.out HZ.out HS.out HB.out rfl (by omega) _ nw _ rfl (by rw [← HNW.out]; have := HD4.out.wait; rw [show ({ R1 with now := R1.now.set k (s ++ noughtB m) } : Rk).wait.length = nw from HNW.out] at this; rw [HNW.out]; exact this) (some ⟨w2.heap.size, 0, none⟩) 1 1 [.int .i64 (k : Int), .string (s ++ noughtB m)] rfl ?_ ?_ ?_ ?_ ?_)
    · have hx := RdX.new (w2.setCell ⟨g, k, none⟩ (.string (s ++ noughtB m))) 2 #[.int .i64 (k : Int), .string (s ++ noughtB m)] tTn rfl (by intro u hu; simp at hu; rcases hu with rfl | rfl <;> rfl)
      rw [show (w2.setCell ⟨g, k, none⟩ (.string (s ++ noughtB m))).heap.size = w2.heap.size by simp] at hx
      exact hx
    · unfold maxLen; omega
    · omega
    · have hz := HBA.out.size
      simp only [World.size_alloc]
      omega
    intro v5 w5 own5 g5 _
    have hd4 := HD4.out
    have hl5 : (R1.wait ++ [(k, s ++ noughtB m)]).length = nw + 1 := by rw [List.length_append, HNW.out]; rfl
    rw [show tnC R1.wait ++ [Value.int .i64 (k : Int), .string (s ++ noughtB m)] = tnC (R1.wait ++ [(k, s ++ noughtB m)]) from (tnC_snoc R1.wait (k, s ++ noughtB m)).symm] at own5
    have hb5 : Blk w5 q tRk _ := hd4.st.grown g5 (fun e => hd4.neW e rfl)
    have f2 := hb5.free 2
    have cc2 : w5.cell? ⟨q, 2, none⟩ = some (.slice Aw nw cw) := hb5.cell 2
    have hk5 := hd4.setWait (l := R1.wait ++ [(k, s ++ noughtB m)]) g5 (by rw [hl5]; exact own5)
    have HY := Lib.hid (((HYA.out.trans (TyR.alloc _ _)).trans (TyR.grown hd4.wait (.inr rfl) g5)).trans (TyR.set (i := 2) hb5 (.inl rfl) v5))
    have HBL := Lib.hid (((HBA.out.trans ((Below.refl base _).alloc (Nat.le_trans hbw HBA.out.size) (.cells #[.int .i64 (k : Int), .string (s ++ noughtB m)] tTn))).grown g5 (Nat.le_trans (Nat.le_trans hbw HBA.out.size) ((Below.refl base _).alloc (Nat.le_trans hbw HBA.out.size) _).size) (fun g' hg' => (hd4.wait.lt g' hg').1)).setCell (p := ⟨q, 2, none⟩) (by simpa using hbq) v5)
    have HK5 := Lib.hid hk5
    obtain ⟨A5, k5, rfl⟩ := own_shape own5
    clear hd4 hb5 hk5 own5 g5 hl5
    go_wp2
    go_ret
    exact ⟨by rw [HE.out]; rfl, by rw [HE.out, ← HPD.out]; exact ⟨_, HK5.out⟩, HBL.out, HY.out⟩
  · have hpos : (stepQ R).2 = 11 := by
      unfold stepQ at h0 ⊢
      split
      · rfl
      · split
        · rfl
        · rename_i a b; rw [if_neg a, if_neg b] at h0; exact absurd rfl h0
    have HE := Lib.hid (show writeQ R k s = stepQ R by rw [HWR.out, if_pos h0])
    rw [hpos] at HST
    clear h0 hnn HWR
    go_enter Try.func19, Try.ntmps19
    go_wp2_with fail
    refine HST.out.mono ?_
    rintro e w1 ⟨rfl, hd1, hu1⟩
    have HD1 := Lib.hid hd1
    have HU1 := Lib.hid hu1
    clear hd1 hu1
    go_wp2
    go_ret
    exact ⟨by rw [HE.out, hpos]; rfl, by rw [HE.out]; exact ⟨_, HD1.out⟩, HU1.out.below hbw (fun g e => by rw [e]; exact hbq), TyR.of_upd HSQ.out HU1.out⟩
end Go.Proofs.Ytgkenknplepmeaa
