/-
  WALK: graph.newGroup: a group by value, its rows new.
-/
import Derived.Test.YtlkpbpecgdphaaaGreatDoorUp
import Derived.Test.YtlkpbpecgdphaaaGreatDoorName
import Derived.Test.YtlkpbpecgdphaaaGreatDoorAppAny
namespace Go.Proofs.YtlkpbpecgdphaaaGreatDoor
open Go.RowKit

/-- A group by value whose rows are new from B on. -/
def GpOwn (w : World) (B : Nat) (v : Value) (g : Gp) : Prop := ∃ a b c, v = .agg #[a, b, c, .bool g.ph] ∧ Own1 w B a g.tg ∧ Own1 w B b g.nd ∧ Own1 w B c g.cm
theorem own1_below {w w' : World} {B : Nat} {v : Value} {l : List ByteArray} (h : Own1 w B v l) (hb : Below w.heap.size w w') : Own1 w' B v l := h.kept (grown_of_below hb) (by cases v.ownBlock <;> simp)
theorem own1_len {w : World} {B n : Nat} {v : Value} {l : List ByteArray} (h : w.ownsRow B tStr 1 v n (tcells l)) (hn : l.length = n) : Own1 w B v l := by subst hn; exact h
theorem GpOwn.below {w w' : World} {B : Nat} {v : Value} {g : Gp} (h : GpOwn w B v g) (hb : Below w.heap.size w w') : GpOwn w' B v g := by
  obtain ⟨a, b, c, e, h1, h2, h3⟩ := h
  exact ⟨a, b, c, e, own1_below h1 hb, own1_below h2 hb, own1_below h3 hb⟩
theorem GpOwn.mono {w : World} {B B' : Nat} {v : Value} {g : Gp} (h : GpOwn w B v g) (hB : B' ≤ B) : GpOwn w B' v g := by
  obtain ⟨a, b, c, e, h1, h2, h3⟩ := h
  exact ⟨a, b, c, e, h1.mono hB, h2.mono hB, h3.mono hB⟩
def NgRel (W : World) (B pg : Nat) (V1 V2 : Value) (cm : List ByteArray) (f : ByteArray → ByteArray) (n : Nat) (i : Value) (wr : World) : Prop :=
  ∃ (k : Nat) (V : Value), k ≤ n ∧ i = .int .i64 k ∧ wr.ownsRow B tStr 1 V k (tcells ((cm.take k).map f)) ∧ Blk wr pg tGr #[V1, V2, V, .bool false] ∧ Upd W wr (One pg)
theorem take_mapG {α : Type} {f : ByteArray → α} {l : List ByteArray} {k : Nat} {x : ByteArray} (h : l[k]? = some x) : (l.take (k + 1)).map f = (l.take k).map f ++ [f x] := by
  rw [List.take_add_one, h]; simp
set_option maxRecDepth 100000 in
set_option maxHeartbeats 4000000 in
theorem newGroup_any (At An Ac : Option Addr) (nt ct nn cn nc cc : Nat) (tg nd cm : List ByteArray) (stem : ByteArray) (w : World) (h1 : RdS w w.heap.size At nt ct tg) (h2 : RdS w w.heap.size An nn cn nd) (h3 : RdS w w.heap.size Ac nc cc cm)
    (l1 : nt ≤ 1000) (l2 : nn ≤ 1000) (l3 : nc ≤ 1000) (s3 : ∀ x ∈ cm, x.size ≤ 1000) (hj : (joinB nd).length ≤ 1000000) (ha : ∀ c ∈ cm, (autoT c tg nd stem).length ≤ 1000000000) :
    Calls Tryz.prog 100 #[.slice At nt ct, .slice An nn cn, .slice Ac nc cc, .string stem] w fun e w' => ∃ v, e = .returned v ∧ GpOwn w' w.heap.size v (newG tg nd cm stem false) ∧ Below w.heap.size w w' := by
  obtain ⟨i, hi, hz, hsz, hby⟩ := str_parts
  have HI := Lib.hid hi
  have HZ := Lib.hid hz
  have HS := Lib.hid hsz
  have HBY := Lib.hid hby
  have hb0 : Below w.heap.size w (w.alloc (.cells #[.slice none 0 0, .slice none 0 0, .slice none 0 0, .bool false] tGr)) := (Below.refl _ _).alloc (Nat.le_refl _) _
  have p0 := Blk.new w tGr #[.slice none 0 0, .slice none 0 0, .slice none 0 0, .bool false]
  have R1 := Lib.hid (h1.belowS hb0)
  have R2 := Lib.hid (h2.belowS hb0)
  have R3 := Lib.hid (h3.belowS hb0)
  have HB0 := Lib.hid hb0
  have P0 := Lib.hid p0
  have LT := Lib.hid h1.1
  have LN := Lib.hid h2.1
  have LC := Lib.hid h3.1
  have S3 := Lib.hid s3
  have HA := Lib.hid ha
  clear hi hz hsz hby h1 h2 h3 hb0 p0 s3 ha
  go_enter Tryz.func100, Tryz.ntmps100
  go_wp2_with fail
  generalize w.alloc (.cells #[.slice none 0 0, .slice none 0 0, .slice none 0 0, .bool false] tGr) = w0 at *
  refine (cloneS_any At nt ct tg w0 R1.out (by omega)).mono ?_
  rintro e w1 ⟨v1, rfl, own1, hb1⟩
  have HO1 := Lib.hid (own1_len own1 LT.out)
  have HB1 := Lib.hid hb1
  have R12 := Lib.hid (R2.out.belowS hb1)
  clear own1 hb1
  go_wp2_with fail
  refine (cloneS_any An nn cn nd w1 R12.out (by omega)).mono ?_
  rintro e w2 ⟨v2, rfl, own2, hb2⟩
  have HO2 := Lib.hid ((own1_len own2 LN.out).mono HB1.out.size)
  have HO12 := Lib.hid (own1_below HO1.out hb2)
  have HB2 := Lib.hid (HB1.out.trans (hb2.mono HB1.out.size))
  clear own2 hb2 HO1 HB1 R12
  obtain ⟨B1, k1, rfl⟩ := own_shape HO12.out
  obtain ⟨B2, k2, rfl⟩ := own_shape HO2.out
  obtain ⟨W, hW⟩ : ∃ W, W = w2.alloc (.cells #[.slice B1 tg.length k1, .slice B2 nd.length k2, .slice none 0 0, .bool false] tGr) := ⟨_, rfl⟩
  have hbw : Below w2.heap.size w2 W := by rw [hW]; exact (Below.refl _ _).alloc (Nat.le_refl _) _
  have pg : Blk W w2.heap.size tGr #[.slice B1 tg.length k1, .slice B2 nd.length k2, .slice none 0 0, .bool false] := by rw [hW]; exact Blk.new w2 tGr _
  have hw02 : Below w0.heap.size w0 W := HB2.out.trans (hbw.mono HB2.out.size)
  have hw0 : w.heap.size < w0.heap.size := P0.out.lt
  have hw2 : w0.heap.size ≤ w2.heap.size := HB2.out.size
  have hWs : W.heap.size = w2.heap.size + 1 := by rw [hW]; simp
  have HW := Lib.hid hW
  have PG := Lib.hid pg
  have O1 := Lib.hid (own1_below HO12.out hbw)
  have O2 := Lib.hid (own1_below HO2.out hbw)
  have HW02 := Lib.hid hw02
  have WS := Lib.hid hWs
  clear hW pg hbw hw02 hWs HO12 HO2 HB2
  go_wp2
  rw [← HW.out]
  clear HW
  go_loopw [19] (fun i wr => NgRel W W.heap.size w2.heap.size (.slice B1 tg.length k1) (.slice B2 nd.length k2) cm (fun c => ba (autoT c tg nd stem)) nc i wr) (fun i _ => nc - (intOf i).toNat)
  case atStart => exact ⟨0, .slice none 0 0, Nat.zero_le _, rfl, World.ownsRow_nil _ _ _ _, PG.out, Upd.refl _ _⟩
  case round =>
    obtain ⟨k, V, hk, rfl, hown, hpr, hu⟩ := hrel
    have HO := Lib.hid hown
    have PR := Lib.hid hpr
    have HU := Lib.hid hu
    have hbr : Below w0.heap.size w0 wr := HW02.out.trans (hu.below HW02.out.size (fun k hk => by rw [show k = w2.heap.size from hk]; exact hw2))
    have HBR := Lib.hid hbr
    have hsz := hu.size
    clear hown hpr hu hbr
    by_cases hlt : k < nc
    · have hkz : (k : Int) < (nc : Int) := by omega
      obtain ⟨x, hx⟩ : ∃ x, cm[k]? = some x := ⟨_, List.getElem?_eq_getElem (by rw [LC.out]; exact hlt)⟩
      obtain ⟨b', off, rfl, _, hc1⟩ := (R3.out.belowS HBR.out).at_ hx
      have hxm := List.mem_of_getElem? hx
      have hxs : x.size ≤ 1000 := S3.out x hxm
      have HT := Lib.hid (take_mapG (f := fun c => ba (autoT c tg nd stem)) hx)
      have hal := HA.out x hxm
      obtain ⟨AV, cV, rfl⟩ := own_shape HO.out
      have HC := Lib.hid (auto_any x stem At An nt ct nn cn tg nd wr.drew ((R1.out.belowS HBR.out).belowS ((Below.refl _ _).drew)) ((R2.out.belowS HBR.out).belowS ((Below.refl _ _).drew)) (by omega) (by omega) hj hal)
      have q0 : wr.cell? ⟨w2.heap.size, 2, none⟩ = some (.slice AV k cV) := PR.out.cell 2
      have q1 : wr.drew.cell? ⟨w2.heap.size, 2, none⟩ = some (.slice AV k cV) := PR.out.cell 2
      clear hx hxm hal
      revert HT HC
      generalize ba (autoT x tg nd stem) = y
      intro HT HC
      have hk0 : (0 : Int) ≤ (k : Int) := by omega
      go_wp2_with fail
      go_region_law
        (first
          | (refine step_append_rd _ (by rfl) (.tmp 24) (.tmp 30) _ (by rfl) W.heap.size tStr i _ 1 16 Tryz.underlying27 HI.out HZ.out HS.out HBY.out rfl (by decide) _ k _ (by rfl) HO3.out (some ⟨w3.heap.size, 0, none⟩) 1 1 [.string y] (by rfl) HRX.out (by unfold maxLen; omega) (by omega) HSZ3.out ?_; intro v5 w5 own5 g5 _; obtain ⟨A5, k5, rfl⟩ := own_shape own5; have hk5 := PR3.out.grown g5 (row_block_ne HO3.out PR3.out (by decide)); have e0 : w5.cell? ⟨w2.heap.size, 2, none⟩ = some (.slice AV k cV) := hk5.cell 2; have e1 := hk5.free 2; have PR5 := Lib.hid (hk5.set 2 (.slice A5 (k + 1) k5)); have HO5 := Lib.hid (own_set (i := 2) (u := .slice A5 (k + 1) k5) own5 (row_block_ne own5 hk5 (by decide))); have HU5 := Lib.hid ((show Upd W w5 (One w2.heap.size) from ⟨g5.os.trans HU3.out.os, g5.tape.trans HU3.out.tape, g5.output.trans HU3.out.output, Nat.le_trans HU3.out.size g5.size, fun j hj hn => (g5.block j (Nat.lt_of_lt_of_le hj HU3.out.size) (fun e => by have := (HO3.out.lt j e.symm).1; omega)).trans (HU3.out.block j hj hn)⟩).setOne 2 (.slice A5 (k + 1) k5)); clear own5 g5 hk5)
          | (go_simp; (refine HC.out.mono ?_; rintro e w3 ⟨rfl, hb3⟩; have q2 : w3.cell? ⟨w2.heap.size, 2, none⟩ = some (.slice AV k cV) := (hb3.cell (p := ⟨w2.heap.size, 2, none⟩) PR.out.lt).trans q1; have pr3 : Blk w3 w2.heap.size tGr #[.slice B1 tg.length k1, .slice B2 nd.length k2, .slice AV k cV, .bool false] := (hb3.block _ PR.out.lt).trans PR.out; have PR3 := Lib.hid (pr3.alloc (.cells #[.string y] tStr)); have q3 : (w3.alloc (.cells #[.string y] tStr)).cell? ⟨w2.heap.size, 2, none⟩ = some (.slice AV k cV) := PR3.out.cell 2; have HRX := Lib.hid (rdx_one w3 y); have HO3 := Lib.hid ((ownsRow_kept (w := wr.drew) (w' := w3) HO.out (fun g hg => hb3.block g (HO.out.lt g hg).2)).alloc (.cells #[.string y] tStr)); have HU3 := Lib.hid (HU.out.two (show Upd wr (w3.alloc (.cells #[.string y] tStr)) (One w2.heap.size) from ((Upd.refl wr _).drew.trans (Upd.of_below hb3 (One w2.heap.size)) (fun _ _ h => h)).alloc _)); have HSZ3 := Lib.hid HU3.out.size; clear hb3 pr3; (try dsimp only))))
      all_goals (
        go_wp2
        go_roundw
        case rel =>
          refine ⟨k + 1, .slice A5 (k + 1) k5, by omega, by go_num, ?_, PR5.out, HU5.out⟩
          have := HO5.out
          rw [HT.out, tcells_snoc]
          exact this
        case measure => simp [intOf]; omega)
    · obtain rfl : k = nc := by omega
      have hown := HO.out
      rw [List.take_of_length_le (by rw [LC.out]; exact Nat.le_refl _)] at hown
      obtain ⟨AV, cV, rfl⟩ := own_shape hown
      have hown2 := own1_len hown (by rw [List.length_map]; exact LC.out)
      have hp0 : Blk wr w.heap.size tGr #[.slice none 0 0, .slice none 0 0, .slice none 0 0, .bool false] := (HBR.out.block _ P0.out.lt).trans P0.out
      have a0 : wr.cell? ⟨w2.heap.size, 0, none⟩ = some (.slice B1 tg.length k1) := PR.out.cell 0
      have a1 : wr.cell? ⟨w2.heap.size, 1, none⟩ = some (.slice B2 nd.length k2) := PR.out.cell 1
      have a2 : wr.cell? ⟨w2.heap.size, 2, none⟩ = some (.slice AV k cV) := PR.out.cell 2
      have a3 : wr.cell? ⟨w2.heap.size, 3, none⟩ = some (.bool false) := PR.out.cell 3
      have y0 : wr.cell? ⟨w.heap.size, 0, none⟩ = some (.slice none 0 0) := hp0.cell 0
      have y1 : wr.cell? ⟨w.heap.size, 1, none⟩ = some (.slice none 0 0) := hp0.cell 1
      have y2 : wr.cell? ⟨w.heap.size, 2, none⟩ = some (.slice none 0 0) := hp0.cell 2
      have y3 : wr.cell? ⟨w.heap.size, 3, none⟩ = some (.bool false) := hp0.cell 3
      have z0 := hp0.free 0
      have z1 := hp0.free 1
      have z2 := hp0.free 2
      have z3 := hp0.free 3
      have HOV := Lib.hid (hown2.mono (show w0.heap.size ≤ W.heap.size from HW02.out.size))
      have HO1 := Lib.hid (own_upd O1.out HU.out (row_block_ne O1.out PG.out (by decide)))
      have HO2 := Lib.hid (own_upd O2.out HU.out (row_block_ne O2.out PG.out (by decide)))
      clear hown hown2 hp0 HO
      go_wp2
      refine bodyPost_ret (v := .agg #[.slice B1 tg.length k1, .slice B2 nd.length k2, .slice AV k cV, .bool false]) ?_ rfl ?_
      · rw [results_cell1 rfl]
        go_simp
      · refine ⟨_, rfl, ⟨_, _, _, rfl, ?_, ?_, ?_⟩, ?_⟩
        · exact (own_set (own_set (own_set (own_set HO1.out (own_old (_w' := wr) HO1.out hw0)) (own_old (_w' := wr) HO1.out hw0)) (own_old (_w' := wr) HO1.out hw0)) (own_old (_w' := wr) HO1.out hw0)).mono (Nat.le_of_lt hw0)
        · exact (own_set (own_set (own_set (own_set HO2.out (own_old (_w' := wr) HO2.out hw0)) (own_old (_w' := wr) HO2.out hw0)) (own_old (_w' := wr) HO2.out hw0)) (own_old (_w' := wr) HO2.out hw0)).mono (Nat.le_of_lt hw0)
        · exact (own_set (own_set (own_set (own_set HOV.out (own_old (_w' := wr) HOV.out hw0)) (own_old (_w' := wr) HOV.out hw0)) (own_old (_w' := wr) HOV.out hw0)) (own_old (_w' := wr) HOV.out hw0)).mono (Nat.le_of_lt hw0)
        · have hb0 := (HB0.out.trans (HBR.out.mono HB0.out.size))
          exact (((hb0.setCell (p := ⟨w.heap.size, 0, none⟩) (Nat.le_refl _) _).setCell (p := ⟨w.heap.size, 1, none⟩) (Nat.le_refl _) _).setCell (p := ⟨w.heap.size, 2, none⟩) (Nat.le_refl _) _).setCell (p := ⟨w.heap.size, 3, none⟩) (Nat.le_refl _) _
end Go.Proofs.YtlkpbpecgdphaaaGreatDoor
