/-
  WALK: the document's disk: NewDisk.
-/
import Derived.Test.YtgkenknplepmeaaRkD
import Derived.Test.YtgkenknplepmeaaRkB
import Derived.Deep.RegionLaw
namespace Go.Proofs.Ytgkenknplepmeaa
open Go.RowKit

section
variable {w w' : World} {base q : Nat} {VK VN VW : Value} {R : Rk}
theorem RkAt.growKept (h : RkAt w base q VK VN VW R) {v : Value} {l : List ByteArray} (hg : w.grownBy w' VK.ownBlock) (ho : w'.ownsRow base tTx 1 v l.length (txC l)) (hn : v.ownBlock = VK.ownBlock ∨ v.ownBlock = some w.heap.size) : RkAt (w'.setCell ⟨q, 0, none⟩ v) base q v VN VW { R with kept := l } := by
  have hs : Blk w' q tRk #[VK, VN, VW, .int .i64 R.fuse, .bool R.down] := h.st.grown hg (fun e => h.neK e rfl)
  have hs2 := hs.set 0 v
  have hk : ∀ {e : TypeId} {g : Nat} {cs : Array Value}, VK.ownBlock ≠ some g → e ≠ tRk → Blk w g e cs → Blk (w'.setCell ⟨q, 0, none⟩ v) g e cs := fun h1 h2 hb => (hb.grown hg h1).other (fun e => by subst e; exact hb.ne h.st h2 rfl) _
  refine ⟨h.hq, hs2, own_stands ho (fun g cs _ hb => hb.other (fun e => by subst e; exact hb.ne hs (by decide) rfl) _), own_stands h.now (fun g cs hg2 hb => hk (fun e => h.sep g e hg2) (by decide) hb), own_stands h.wait (fun g cs _ hb => hk (own_block_ne h.kept hb (by decide)) (by decide) hb), fun g hg e => ?_⟩
  rcases hn with e2 | e2
  · rw [e2] at hg; exact h.sep g hg e
  · have := (h.now.lt g e).2
    rw [e2] at hg; injection hg with hg; omega
theorem RkAt.growNow (h : RkAt w base q VK VN VW R) {v : Value} {l : List ByteArray} (hg : w.grownBy w' VN.ownBlock) (ho : w'.ownsRow base tTx 1 v l.length (txC l)) (hn : v.ownBlock = VN.ownBlock ∨ v.ownBlock = some w.heap.size) : RkAt (w'.setCell ⟨q, 1, none⟩ v) base q VK v VW { R with now := l } := by
  have hs : Blk w' q tRk #[VK, VN, VW, .int .i64 R.fuse, .bool R.down] := h.st.grown hg (fun e => h.neN e rfl)
  have hs2 := hs.set 1 v
  have hk : ∀ {e : TypeId} {g : Nat} {cs : Array Value}, VN.ownBlock ≠ some g → e ≠ tRk → Blk w g e cs → Blk (w'.setCell ⟨q, 1, none⟩ v) g e cs := fun h1 h2 hb => (hb.grown hg h1).other (fun e => by subst e; exact hb.ne h.st h2 rfl) _
  refine ⟨h.hq, hs2, own_stands h.kept (fun g cs hg2 hb => hk (fun e => h.sep g hg2 e) (by decide) hb), own_stands ho (fun g cs _ hb => hb.other (fun e => by subst e; exact hb.ne hs (by decide) rfl) _), own_stands h.wait (fun g cs _ hb => hk (own_block_ne h.now hb (by decide)) (by decide) hb), fun g hg e => ?_⟩
  rcases hn with e2 | e2
  · rw [e2] at e; exact h.sep g hg e
  · have := (h.kept.lt g hg).2
    rw [e2] at e; injection e with e; omega
end
theorem newQ_bad (n : Int) (w : World) (h : n < 1 ∨ 120 < n) :
    Calls Try.prog 15 #[.int .i64 n] w fun e w' => e = .returned (.tuple #[.pointer none, .int .i64 1]) ∧ w = w' := by
  by_cases h0 : n < 1
  · have d0 : decide (n < 1) = true := decide_eq_true h0
    clear h
    go_enter Try.func15, Try.ntmps15
    go_wp2
    go_ret2
    exact ⟨rfl, rfl⟩
  · have d0 : decide (n < 1) = false := decide_eq_false h0
    have d1 : decide (120 < n) = true := decide_eq_true (by omega)
    clear h
    go_enter Try.func15, Try.ntmps15
    go_wp2
    go_ret2
    exact ⟨rfl, rfl⟩
def repQ (j k : Nat) : Rk := ⟨List.replicate j (noughtB 340), List.replicate k (noughtB 340), [], -1, false⟩
def NqRel (w0 : World) (base q n : Nat) (i : Value) (wr : World) : Prop := ∃ (j : Nat) (Ak An : Option Addr) (ck cn : Nat), j ≤ n ∧ i = .int .i64 j ∧ RkAt wr base q (.slice Ak j ck) (.slice An j cn) (.slice none 0 0) (repQ j j) ∧ Below base w0 wr ∧ TyR w0 wr
theorem rdx_str (w : World) (s : ByteArray) : RdX (w.alloc (.cells #[.string s] tTx)) 1 (some ⟨w.heap.size, 0, none⟩) 1 [.string s] := RdX.new w 1 #[.string s] tTx rfl (by intro u hu; simp at hu; subst hu; rfl)
theorem RkAt.keptRep {w : World} {base q j k : Nat} {VK VN VW : Value} (h : RkAt w base q VK VN VW (repQ j k)) : w.ownsRow base tTx 1 VK j (txC (List.replicate j (noughtB 340))) := by
  have := h.kept
  rw [show (repQ j k).kept.length = j from List.length_replicate] at this
  exact this
theorem RkAt.nowRep {w : World} {base q j k : Nat} {VK VN VW : Value} (h : RkAt w base q VK VN VW (repQ j k)) : w.ownsRow base tTx 1 VN k (txC (List.replicate k (noughtB 340))) := by
  have := h.now
  rw [show (repQ j k).now.length = k from List.length_replicate] at this
  exact this
theorem rep_own {w : World} {base j : Nat} {v : Value} (h : w.ownsRow base tTx 1 v (j + 1) (txC (List.replicate j (noughtB 340)) ++ [.string (noughtB 340)])) : w.ownsRow base tTx 1 v (List.replicate (j + 1) (noughtB 340)).length (txC (List.replicate (j + 1) (noughtB 340))) := by
  rw [List.length_replicate, List.replicate_succ']
  unfold txC at h ⊢
  rw [List.map_append]
  exact h
set_option maxRecDepth 100000 in
set_option maxHeartbeats 4000000 in
theorem newQ_good (n : Nat) (w : World) (h1 : 1 ≤ n) (h2 : n ≤ 120) :
    Calls Try.prog 15 #[.int .i64 n] w fun e w' => e = .returned (.tuple #[ptr w.heap.size, .int .i64 0]) ∧ RkE w' w.heap.size w.heap.size (newQ n) ∧ Below w.heap.size w w' ∧ TyR w w' := by
  have d0 : decide ((n : Int) < 1) = false := decide_eq_false (by omega)
  have d1 : decide ((120 : Int) < (n : Int)) = false := decide_eq_false (by omega)
  have h0 : RkAt (w.alloc (.cells #[.slice none 0 0, .slice none 0 0, .slice none 0 0, .int .i64 (-1), .bool false] tRk)) w.heap.size w.heap.size (.slice none 0 0) (.slice none 0 0) (.slice none 0 0) (repQ 0 0) :=
    ⟨Nat.le_refl _, Blk.new _ _ _, World.ownsRow_nil _ _ _ _, World.ownsRow_nil _ _ _ _, World.ownsRow_nil _ _ _ _, fun g h => by cases h⟩
  have HD0 := Lib.hid h0
  have HB0 := Lib.hid (show Below w.heap.size w (w.alloc (.cells #[.slice none 0 0, .slice none 0 0, .slice none 0 0, .int .i64 (-1), .bool false] tRk)) from (Below.refl _ _).alloc (Nat.le_refl _) _)
  obtain ⟨i, hi, hz, hsz, hby⟩ := tx_parts
  have HI := Lib.hid hi
  have HZ := Lib.hid hz
  have HS := Lib.hid hsz
  have HB := Lib.hid hby
  have HNO := Lib.hid (fun W => noughts_any 340 W (by omega))
  rw [show ((340 : Nat) : Int) = 340 from rfl] at HNO
  clear hi hz hsz hby h0
  go_enter Try.func15, Try.ntmps15
  go_wp2
  go_loopw [5] (fun i wr => NqRel w w.heap.size w.heap.size n i wr) (fun i _ => n - (intOf i).toNat)
  case atStart => exact ⟨0, none, none, 0, 0, Nat.zero_le _, rfl, HD0.out, HB0.out, TyR.of_below HB0.out⟩
  case round =>
    obtain ⟨j, Ak, An, ck, cn, hj, rfl, hd, hb, hy⟩ := hrel
    have c0 : wr.cell? ⟨w.heap.size, 0, none⟩ = some (.slice Ak j ck) := hd.st.cell 0
    have HD1 := Lib.hid hd
    have HB1 := Lib.hid hb
    have HY1 := Lib.hid hy
    clear hd hb hy
    by_cases hlt : j < n
    · have hjn : (j : Int) < (n : Int) := by omega
      go_wp2_with fail
      go_region_law
        (first
          | (refine step_append_rd _ (by rfl) (.tmp 23) (.tmp 25) _ (by rfl) w.heap.size tTx i _ 1 16 Try.underlying47 HI.out HZ.out HS.out HB.out rfl (by decide) _ j _ (by rfl) HOW.out (some ⟨w2.heap.size, 0, none⟩) 1 1 [.string (noughtB 340)] (by rfl) HRX.out (by unfold maxLen; omega) (by omega) HBS.out.size ?_; intro v5 w5 own5 g5 loc5; obtain ⟨A5, k5, rfl⟩ := own_shape own5; have e0 : w5.cell? ⟨w.heap.size, 0, none⟩ = some (.slice Ak j ck) := (HD3.out.st.grown g5 (fun e => HD3.out.neK e rfl)).cell 0; have e1 : w5.frozen? ⟨w.heap.size, 0, none⟩ = false := (HD3.out.st.grown g5 (fun e => HD3.out.neK e rfl)).free 0; have HD5 := Lib.hid (HD3.out.growKept (l := List.replicate (j + 1) (noughtB 340)) g5 (rep_own own5) loc5); have HB5 := Lib.hid ((HBS.out.grown g5 HBS.out.size (fun g' hg' => (HD3.out.kept.lt g' hg').1)).setCell (p := ⟨w.heap.size, 0, none⟩) (Nat.le_refl _) (.slice A5 (j + 1) k5)); have HY5 := Lib.hid ((HYS.out.trans (TyR.grown HOW.out (.inl rfl) g5)).trans (TyR.set (i := 0) (HD3.out.st.grown g5 (fun e => HD3.out.neK e rfl)) (.inl rfl) (.slice A5 (j + 1) k5))); clear own5 g5 loc5)
          | (go_simp; (refine (HNO.out _).mono ?_; rintro e w2 ⟨rfl, hb2⟩; have hd2 := HD1.out.below (w' := w2) ((Below.refl _ _).drew.trans hb2); have q0 : w2.cell? ⟨w.heap.size, 0, none⟩ = some (.slice Ak j ck) := hd2.st.cell 0; have hd3 := hd2.below ((Below.refl _ _).alloc (Nat.le_refl _) (.cells #[.string (noughtB 340)] tTx)); have q1 : (w2.alloc (.cells #[.string (noughtB 340)] tTx)).cell? ⟨w.heap.size, 0, none⟩ = some (.slice Ak j ck) := hd3.st.cell 0; have HBS := Lib.hid ((HB1.out.trans (((Below.refl _ _).drew.trans hb2).mono HB1.out.size)).alloc (Nat.le_trans HB1.out.size hb2.size) (.cells #[.string (noughtB 340)] tTx)); have HYS := Lib.hid ((HY1.out.trans (TyR.of_below ((Below.refl _ _).drew.trans hb2))).trans (TyR.alloc _ (.cells #[.string (noughtB 340)] tTx))); have HOW := Lib.hid hd3.keptRep; have HRX := Lib.hid (rdx_str w2 (noughtB 340)); have HD3 := Lib.hid hd3; clear hd2 hd3 hb2; (try dsimp only))))
      all_goals (
        have hd6 : RkAt (w5.setCell ⟨w.heap.size, 0, none⟩ (.slice A5 (j + 1) k5)) w.heap.size w.heap.size (.slice A5 (j + 1) k5) (.slice An j cn) (.slice none 0 0) (repQ (j + 1) j) := HD5.out
        have HB6 := Lib.hid HB5.out
        have HY6 := Lib.hid HY5.out
        clear HD5 HB5 HY5 HD3 HBS HYS HOW HRX e0 e1 q0 q1
        generalize w5.setCell ⟨w.heap.size, 0, none⟩ (.slice A5 (j + 1) k5) = w6 at *
        have c1 : w6.cell? ⟨w.heap.size, 1, none⟩ = some (.slice An j cn) := hd6.st.cell 1
        have HD6 := Lib.hid hd6
        clear hd6
        go_wp2_with fail
        go_region_law
          (first
            | (refine step_append_rd _ (by rfl) (.tmp 33) (.tmp 35) _ (by rfl) w.heap.size tTx i _ 1 16 Try.underlying47 HI.out HZ.out HS.out HB.out rfl (by decide) _ j _ (by rfl) HOX.out (some ⟨w7.heap.size, 0, none⟩) 1 1 [.string (noughtB 340)] (by rfl) HRY.out (by unfold maxLen; omega) (by omega) HBT.out.size ?_; intro v8 w8 own8 g8 loc8; obtain ⟨A8, k8, rfl⟩ := own_shape own8; have e0 : w8.cell? ⟨w.heap.size, 1, none⟩ = some (.slice An j cn) := (HD8.out.st.grown g8 (fun e => HD8.out.neN e rfl)).cell 1; have e1 : w8.frozen? ⟨w.heap.size, 1, none⟩ = false := (HD8.out.st.grown g8 (fun e => HD8.out.neN e rfl)).free 1; have HE7 := Lib.hid (HD8.out.growNow (l := List.replicate (j + 1) (noughtB 340)) g8 (rep_own own8) loc8); have HB7 := Lib.hid ((HBT.out.grown g8 HBT.out.size (fun g' hg' => (HD8.out.now.lt g' hg').1)).setCell (p := ⟨w.heap.size, 1, none⟩) (Nat.le_refl _) (.slice A8 (j + 1) k8)); have HY7 := Lib.hid ((HYT.out.trans (TyR.grown HOX.out (.inl rfl) g8)).trans (TyR.set (i := 1) (HD8.out.st.grown g8 (fun e => HD8.out.neN e rfl)) (.inl rfl) (.slice A8 (j + 1) k8))); clear own8 g8 loc8)
            | (go_simp; (refine (HNO.out _).mono ?_; rintro e w7 ⟨rfl, hb7⟩; have hd7 := HD6.out.below (w' := w7) ((Below.refl _ _).drew.trans hb7); have q0 : w7.cell? ⟨w.heap.size, 1, none⟩ = some (.slice An j cn) := hd7.st.cell 1; have hd8 := hd7.below ((Below.refl _ _).alloc (Nat.le_refl _) (.cells #[.string (noughtB 340)] tTx)); have q1 : (w7.alloc (.cells #[.string (noughtB 340)] tTx)).cell? ⟨w.heap.size, 1, none⟩ = some (.slice An j cn) := hd8.st.cell 1; have HBT := Lib.hid ((HB6.out.trans (((Below.refl _ _).drew.trans hb7).mono HB6.out.size)).alloc (Nat.le_trans HB6.out.size hb7.size) (.cells #[.string (noughtB 340)] tTx)); have HYT := Lib.hid ((HY6.out.trans (TyR.of_below ((Below.refl _ _).drew.trans hb7))).trans (TyR.alloc _ (.cells #[.string (noughtB 340)] tTx))); have HOX := Lib.hid hd8.nowRep; have HRY := Lib.hid (rdx_str w7 (noughtB 340)); have HD8 := Lib.hid hd8; clear hd7 hd8 hb7; (try dsimp only))))
        all_goals go_wp2
        all_goals exact ⟨⟨j + 1, A5, A8, k5, k8, by omega, by go_num, HE7.out, HB7.out, HY7.out⟩, by simp [intOf]; omega⟩)
    · obtain rfl : j = n := by omega
      have hjj : decide ((j : Int) < (j : Int)) = false := decide_eq_false (by omega)
      go_wp2
      go_ret2
      exact ⟨rfl, ⟨_, _, _, HD1.out⟩, HB1.out, HY1.out⟩
end Go.Proofs.Ytgkenknplepmeaa
