/-
  WALK: record.Parse: what it gives of a text.
-/
import Derived.Test.YtpghfefiifhbiaaGreatDoorRcR
import Derived.Test.YtpghfefiifhbiaaGreatDoorTexts
namespace Go.Proofs.YtpghfefiifhbiaaGreatDoor
open Go.RowKit Go.Sort

def zeroR : Array Value := #[.slice none 0 0, .slice none 0 0, .slice none 0 0]
/-- The loop over the commands. -/
def PcRel (w : World) (b p0 pr n : Nat) (st0 : St) (N : Nat) (v17 : Value) (wr : World) : Prop :=
  ∃ (k : Nat) (l : List ByteArray) (st : St) (V : Value), k ≤ n ∧ v17 = .int .i64 k ∧ wr.ownsRow w.heap.size tStr 1 V k (tcells l) ∧ Blk wr pr tRec #[V, .slice none 0 0, .slice none 0 0] ∧ Blk wr p0 tRec zeroR ∧ In wr b st ∧ Below w.heap.size w wr ∧ Sofar (st0.bind (manyO (txO 300) k)) k l st ∧ (rest st).length ≤ N
def recN (o : Option Rcd) : Int := if o.isSome then 0 else 4
def PaP (s : Bs) (w : World) (e : Ending) (w' : World) : Prop :=
  Below w.heap.size w w' ∧ ∃ A0 n0 c0 A1 n1 c1 A2 n2 c2, e = .returned (.tuple #[.agg #[.slice A0 n0 c0, .slice A1 n1 c1, .slice A2 n2 c2], errV (recN (recO nameB s))]) ∧
    RdS w' w'.heap.size A0 n0 c0 ((recO nameB s).getD ([], [], [])).1 ∧ RdF w' w'.heap.size A1 n1 c1 ((recO nameB s).getD ([], [], [])).2.1 ∧ RdF w' w'.heap.size A2 n2 c2 ((recO nameB s).getD ([], [], [])).2.2
theorem ownT_more {w : World} {B B' n s : Nat} {e : TypeId} {v : Value} {xs : List Value} (h : w.ownsRow B e s v n xs) (hB : B' ≤ B) : w.ownsRow B' e s v n xs := by
  refine ⟨h.1, ?_⟩
  rcases h.2 with k | ⟨g, cap, cur, k1, k2, k3⟩
  · exact .inl k
  · exact .inr ⟨g, cap, cur, k1, by omega, k3⟩
theorem tcells_snoc (l : List ByteArray) (t : ByteArray) : tcells (l ++ [t]) = tcells l ++ [.string t] := by simp [tcells]
theorem below_one {w w' w2 : World} {b B : Nat} (h : Below B w w') (hB : B ≤ w'.heap.size) (hb : B ≤ b) (hu : Upd w' w2 (One b)) : Below B w w2 := h.trans (hu.below hB (fun k hk => by rw [show k = b from hk]; exact hb))

theorem own_upd {w w' : World} {base s n b : Nat} {e : TypeId} {v : Value} {xs : List Value} (h : w.ownsRow base e s v n xs) (hu : Upd w w' (One b)) (hb : v.ownBlock ≠ some b) : w'.ownsRow base e s v n xs :=
  ownsRow_kept h (fun g hg => hu.block g (h.lt g hg).2 (fun e => hb (by rw [hg]; exact congrArg some e)))
theorem own_set {w : World} {base s n p i : Nat} {e : TypeId} {v u : Value} {xs : List Value} (h : w.ownsRow base e s v n xs) (hb : v.ownBlock ≠ some p) : (w.setCell ⟨p, i, none⟩ u).ownsRow base e s v n xs :=
  ownsRow_kept h (fun g hg => Below.heap_setCell _ _ _ _ (fun e => hb (by rw [hg]; exact congrArg some e)))
theorem own_old {w w' : World} {base s n p : Nat} {e : TypeId} {v : Value} {xs : List Value} (h : w.ownsRow base e s v n xs) (hp : p < base) : v.ownBlock ≠ some p := fun e => by have := (h.lt p e).1; omega
set_option maxRecDepth 100000 in
set_option maxHeartbeats 16000000 in
theorem parse_any (s : ByteArray) (w : World) (hE : Env w) (hs : s.size ≤ 1000000) : Calls Tryz.prog 14 #[.string s] w (PaP s.data.toList w) := by
  obtain ⟨i, hi, hz, hsz, hby⟩ := str_parts
  have HI := Lib.hid hi
  have HZ := Lib.hid hz
  have HS := Lib.hid hsz
  have HBY := Lib.hid hby
  have HE := Lib.hid hE
  have hEB := hE.B
  have HEB := Lib.hid hEB
  obtain ⟨q, hq⟩ : ∃ q, q = s.data.toList := ⟨_, rfl⟩
  rw [← hq]
  have hsq : s = ba q := by rw [hq, ba_of]
  have hql : q.length ≤ 1000000 := by rw [hq, show s.data.toList.length = s.size by simp]; exact hs
  subst hsq
  clear hi hz hsz hby hE hEB hq hs
  have hb0 : Below w.heap.size w ((w.alloc (.cells #[.slice none 0 0, .slice none 0 0, .slice none 0 0] tRec)).alloc (.cells #[.string (ba q), .bool false] tRd)) := ((Below.refl _ w).alloc (Nat.le_refl _) _).alloc (by simp) _
  have hp0 := (Blk.new w tRec #[.slice none 0 0, .slice none 0 0, .slice none 0 0]).alloc (.cells #[.string (ba q), .bool false] tRd)
  have hin := Blk.new (w.alloc (.cells #[.slice none 0 0, .slice none 0 0, .slice none 0 0] tRec)) tRd #[.string (ba q), .bool false]
  have hsz1 : (w.alloc (.cells #[.slice none 0 0, .slice none 0 0, .slice none 0 0] tRec)).heap.size = w.heap.size + 1 := by simp
  rw [hsz1] at hin
  have hp : w.heap.size + 2 ≤ ((w.alloc (.cells #[.slice none 0 0, .slice none 0 0, .slice none 0 0] tRec)).alloc (.cells #[.string (ba q), .bool false] tRd)).heap.size := by simp
  have HB0' := Lib.hid hb0
  have HP0' := Lib.hid hp0
  have HIN' := Lib.hid hin
  have HP' := Lib.hid hp
  clear hb0 hp0 hin hsz1 hp
  go_enter Tryz.func14, Tryz.ntmps14
  go_wp2_with fail
  generalize (w.alloc (.cells #[.slice none 0 0, .slice none 0 0, .slice none 0 0] tRec)).alloc (.cells #[.string (ba q), .bool false] tRd) = w0 at *
  have hb0 := HB0'.out
  have hp0 := HP0'.out
  have hin := HIN'.out
  have hp := HP'.out
  have hin0 : In w0 (w.heap.size + 1) (some q) := hin
  have HP0 := Lib.hid hp0
  have HB0 := Lib.hid hb0
  have HX := Lib.hid (number_any (w.heap.size + 1) 3 (some q) w0 hin0 (HE.out.below hb0) (by omega) hql)
  rw [show ((3 : Nat) : Int) = 3 from rfl] at HX
  unfold ptr at HX
  have hbb : w.heap.size ≤ (w.heap.size + 1) := by omega
  have hne : w.heap.size ≠ (w.heap.size + 1) := by omega
  have HPZ := Lib.hid hp
  clear hin hin0 hp0 hb0 hp HB0' HP0' HIN' HP'
  refine HX.out.mono ?_
  rintro e w1 ⟨rfl, hi1, hu1⟩
  have ho1 : numS 3 (some q) = h1P q := rfl
  rw [ho1] at hi1 ⊢
  have hl1 : (rest (sOf (h1P q))).length ≤ 1000000 := Nat.le_trans (rest_numS 3 (some q)) hql
  have HU1 := Lib.hid hu1
  have HX1 := Lib.hid (expect_any (w.heap.size + 1) 32 _ w1 hi1)
  unfold ptr at HX1
  clear HX ho1 hi1 hu1
  go_wp2_with fail
  refine HX1.out.mono ?_
  rintro e w2 ⟨rfl, hi2, hu2⟩
  have ho2 : (sOf (h1P q)).bind (expO 32) = h2S q := rfl
  rw [ho2] at hi2
  have hl2 : (rest (h2S q)).length ≤ 1000000 := Nat.le_trans (rest_bind_exp 32 _) hl1
  have hu2' := HU1.out.two hu2
  have HU2 := Lib.hid hu2'
  have HX2 := Lib.hid (number_any (w.heap.size + 1) 3 (h2S q) w2 hi2 (HE.out.below (below_one HB0.out (Nat.le_trans (by omega) HPZ.out) hbb hu2')) (by omega) hl2)
  rw [show ((3 : Nat) : Int) = 3 from rfl] at HX2
  unfold ptr at HX2
  clear HX1 ho2 hi2 hu2 hu2' hl1
  go_wp2_with fail
  refine HX2.out.mono ?_
  rintro e w3 ⟨rfl, hi3, hu3⟩
  have ho3 : numS 3 (h2S q) = h2P q := rfl
  rw [ho3] at hi3 ⊢
  have hl3 : (rest (sOf (h2P q))).length ≤ 1000000 := Nat.le_trans (rest_numS 3 _) hl2
  have HU3 := Lib.hid (HU2.out.two hu3)
  have HX3 := Lib.hid (expect_any (w.heap.size + 1) 32 _ w3 hi3)
  unfold ptr at HX3
  clear HX2 ho3 hi3 hu3 hl2
  go_wp2_with fail
  refine HX3.out.mono ?_
  rintro e w4 ⟨rfl, hi4, hu4⟩
  have ho4 : (sOf (h2P q)).bind (expO 32) = h3S q := rfl
  rw [ho4] at hi4
  have hl4 : (rest (h3S q)).length ≤ 1000000 := Nat.le_trans (rest_bind_exp 32 _) hl3
  have hu4' := HU3.out.two hu4
  have HU4 := Lib.hid hu4'
  have HX4 := Lib.hid (number_any (w.heap.size + 1) 2 (h3S q) w4 hi4 (HE.out.below (below_one HB0.out (Nat.le_trans (by omega) HPZ.out) hbb hu4')) (by omega) hl4)
  rw [show ((2 : Nat) : Int) = 2 from rfl] at HX4
  unfold ptr at HX4
  clear HX3 ho4 hi4 hu4 hu4' hl3
  go_wp2_with fail
  refine HX4.out.mono ?_
  rintro e w5 ⟨rfl, hi5, hu5⟩
  have ho5 : numS 2 (h3S q) = h3P q := rfl
  rw [ho5] at hi5 ⊢
  have hl5 : (rest (sOf (h3P q))).length ≤ 1000000 := Nat.le_trans (rest_numS 2 _) hl4
  have HU5 := Lib.hid (HU4.out.two hu5)
  have hn1 : nOf (h1P q) ≤ 3 := nOf_le _
  have hn2 : nOf (h2P q) ≤ 3 := nOf_le _
  have hn3 : nOf (h3P q) ≤ 2 := nOf_le _
  have HFIN := Lib.hid (fun l0 l1 l2 sx sy sz => rec_fin (ok := nameB) (s := q) (l0 := l0) (l1 := l1) (l2 := l2) (sx := sx) (sy := sy) (sz := sz))
  clear HX4 ho5 hu5 hl4
  revert hi5 hl5 HFIN hn1 hn2 hn3
  generalize nOf (h1P q) = n1
  generalize nOf (h2P q) = n2
  generalize nOf (h3P q) = n3
  generalize sOf (h3P q) = st0
  intro hi5 hl5 hn1 hn2 hn3 HFIN
  -- the record's variable
  have hbl5 := below_one HB0.out (Nat.le_trans (by omega) HPZ.out) hbb HU5.out
  have hpr := Blk.new w5 tRec #[.slice none 0 0, .slice none 0 0, .slice none 0 0]
  have hp06 : Blk w5 w.heap.size tRec zeroR := HP0.out.upd HU5.out hne
  have hp07 := hp06.alloc (.cells #[.slice none 0 0, .slice none 0 0, .slice none 0 0] tRec)
  have hb6 : Below w5.heap.size w5 (w5.alloc (.cells #[.slice none 0 0, .slice none 0 0, .slice none 0 0] tRec)) := (Below.refl _ _).alloc (Nat.le_refl _) _
  have hi6 := hi5.upd hb6
  have hbl6 := hbl5.alloc hbl5.size (.cells #[.slice none 0 0, .slice none 0 0, .slice none 0 0] tRec)
  have hblt : (w.heap.size + 1) < w5.heap.size := hi5.lt
  have hp0lt := hp06.lt
  obtain ⟨pr, hprr⟩ : ∃ pr, pr = w5.heap.size := ⟨_, rfl⟩
  rw [← hprr] at hpr hblt hp0lt
  have HPR := Lib.hid hpr
  have HP7 := Lib.hid hp07
  have HI6 := Lib.hid hi6
  have HB6 := Lib.hid hbl6
  have HPRR := Lib.hid hprr
  clear hpr hp06 hp07 hb6 hi6 hbl6 hbl5 hi5 HU5 HU4 HU3 HU2 HU1 HP0 HB0 HPZ hprr
  go_wp2
  rw [← HPRR.out]
  generalize w5.alloc (.cells #[.slice none 0 0, .slice none 0 0, .slice none 0 0] tRec) = w6 at *
  clear HPRR
  go_loopw [17] (fun v17 wr => PcRel w (w.heap.size + 1) w.heap.size pr n1 st0 1000000 v17 wr) (fun v _ => n1 - (intOf v).toNat)
  case atStart => exact ⟨0, [], st0, .slice none 0 0, Nat.zero_le _, rfl, World.ownsRow_nil _ _ _ _, HPR.out, HP7.out, HI6.out, HB6.out, Sofar.start _ _, hl5⟩
  case round =>
    clear HPR HP7 HI6 HB6 hl5
    obtain ⟨k, l, st, V, hk, rfl, hown, hpr, hp0, hin, hbl, hso, hrl⟩ := hrel
    have HO := Lib.hid hown
    have HPR := Lib.hid hpr
    have HP0 := Lib.hid hp0
    have HBL := Lib.hid hbl
    have HSO := Lib.hid hso
    have hwsz : w.heap.size ≤ wr.heap.size := hbl.size
    obtain ⟨AV, cV, rfl⟩ := own_shape hown
    have c0 := hpr.cell 0
    have HVp := Lib.hid (row_block_ne hown hpr (by decide))
    have HVb := Lib.hid (row_block_ne hown hin (by decide))
    by_cases hlt : k < n1
    · have hkz : (k : Int) < (n1 : Int) := by omega
      have hindr : In wr.drew (w.heap.size + 1) st := hin
      have HTX := Lib.hid (textR_any w.heap.size (w.heap.size + 1) 300 st wr.drew hindr (HE.out.below ⟨hbl.os, hbl.tape, hbl.output, hbl.size, hbl.block⟩) HEB.out hbb (by omega) hrl)
      rw [show ((300 : Nat) : Int) = 300 from rfl] at HTX
      unfold ptr at HTX
      have hprb : pr ≠ (w.heap.size + 1) := by omega
      have hp0p : w.heap.size ≠ pr := by omega
      clear hown hpr hp0 hbl hso hin hindr
      have HBW : Hid (Below w.heap.size w wr.drew) := Lib.hid ⟨HBL.out.os, HBL.out.tape, HBL.out.output, HBL.out.size, HBL.out.block⟩
      have HRL := Lib.hid (Nat.le_trans (rest_tx 300 st) hrl)
      go_wp2_with fail
      go_region_law
        (first
          | (refine step_append_rd _ (by rfl) (.tmp 20) (.tmp 22) _ (by rfl) w.heap.size tStr i _ 1 16 Tryz.underlying22 HI.out HZ.out HS.out HBY.out rfl (by decide) _ k _ (by rfl) HOW.out (some ⟨w2.heap.size, 0, none⟩) 1 1 [.string (tOf (txS 300 st))] (by rfl) HRX.out (by unfold maxLen; omega) (by omega) HSZ3.out ?_; intro v5 w5 own5 g5 _; obtain ⟨A5, k5, rfl⟩ := own_shape own5; have hk5 := HPR3.out.grown g5 HVp.out; have e0 : w5.cell? ⟨pr, 0, none⟩ = some (.slice AV k cV) := hk5.cell 0; have e1 : w5.frozen? ⟨pr, 0, none⟩ = false := hk5.free 0; have HPR5 := Lib.hid (hk5.set 0 (.slice A5 (k + 1) k5)); have HP05 := Lib.hid ((HP03.out.grown g5 (row_block_ne HOW.out HP03.out (by decide))).other hp0p (i := 0) (.slice A5 (k + 1) k5)); have HIN5 := Lib.hid (Blk.other (HIN3.out.grown g5 HVb.out) (Ne.symm hprb) (i := 0) (.slice A5 (k + 1) k5)); have HBL5 := Lib.hid ((HBL3.out.grown g5 HSZ3.out (fun g' hg' => (HOW.out.lt g' hg').1)).setCell (p := ⟨pr, 0, none⟩) (Nat.le_of_lt hp0lt) (.slice A5 (k + 1) k5)); have HOW5 := Lib.hid (ownsRow_kept (w' := w5.setCell ⟨pr, 0, none⟩ (.slice A5 (k + 1) k5)) own5 (fun g hg => Below.heap_setCell _ _ _ _ (fun e => row_block_ne own5 hk5 (by decide) (by rw [hg]; exact congrArg some e)))); clear own5 g5 hk5)
          | (go_simp; (refine HTX.out.mono ?_; rintro e w2 ⟨rfl, hi2, hu2⟩; have hpr2 := HPR.out.upd (w := wr.drew) hu2 hprb; have q0 : w2.cell? ⟨pr, 0, none⟩ = some (.slice AV k cV) := hpr2.cell 0; have HPR3 := Lib.hid (hpr2.alloc (.cells #[.string (tOf (txS 300 st))] tStr)); have q1 : (w2.alloc (.cells #[.string (tOf (txS 300 st))] tStr)).cell? ⟨pr, 0, none⟩ = some (.slice AV k cV) := HPR3.out.cell 0; have HP03 := Lib.hid ((HP0.out.upd (w := wr.drew) hu2 hne).alloc (.cells #[.string (tOf (txS 300 st))] tStr)); have HIN3 := Lib.hid (Blk.alloc hi2 (.cells #[.string (tOf (txS 300 st))] tStr)); have hbl2 := below_one HBW.out hwsz hbb hu2; have HBL3 := Lib.hid (hbl2.alloc hbl2.size (.cells #[.string (tOf (txS 300 st))] tStr)); have HSZ3 := Lib.hid HBL3.out.size; have HRX := Lib.hid (rdx_one w2 (tOf (txS 300 st))); have HOW := Lib.hid ((ownsRow_kept (w := wr.drew) (w' := w2) HO.out (fun g hg => hu2.block g (HO.out.lt g hg).2 (fun e => HVb.out (by rw [hg]; exact congrArg some e)))).alloc (.cells #[.string (tOf (txS 300 st))] tStr)); clear hpr2 hbl2 hi2 hu2; (try dsimp only))))
      all_goals (
        have HNX := Lib.hid HSO.out.nextT
        go_wp2
        go_roundw
        case rel =>
          refine ⟨k + 1, l ++ [tOf (txS 300 st)], sOf (txS 300 st), .slice A5 (k + 1) k5, by omega, by go_num, ?_, HPR5.out, HP05.out, HIN5.out, HBL5.out, HNX.out, HRL.out⟩
          have := HOW5.out
          rwa [← tcells_snoc] at this
        case measure => simp [intOf]; omega)
    · obtain rfl : k = n1 := by omega
      have hprb : pr ≠ (w.heap.size + 1) := by omega
      have hp0p : w.heap.size ≠ pr := by omega
      have HIN := Lib.hid hin
      have hprlt := hpr.lt
      have hblt2 := Blk.lt hin
      have HVp0 := Lib.hid (row_block_ne hown hp0 (by decide))
      clear hown hpr hp0 hbl hso c0
      have HEW := Lib.hid (HE.out.below HBL.out)
      have HFS := Lib.hid (files_any w.heap.size (w.heap.size + 1) n2 st wr HIN.out HEW.out HEB.out hbb (by omega) hrl)
      unfold ptr at HFS
      clear hin
      go_wp2_with fail
      refine HFS.out.mono ?_
      rintro e w7 ⟨VX1, l1, st1, rfl, hown1, hin1, hu1, hso1, hrl1⟩
      obtain ⟨A1, c1, rfl⟩ := own_shape hown1
      have hpr7 := HPR.out.upd hu1 hprb
      have hp07 := HP0.out.upd hu1 hne
      have ho7 := own_upd HO.out hu1 HVb.out
      have hbl7 := below_one HBL.out hwsz hbb hu1
      have d1 : w7.cell? ⟨pr, 1, none⟩ = some (.slice none 0 0) := hpr7.cell 1
      have g1 := hpr7.free 1
      have h1p : (Value.slice A1 n2 c1).ownBlock ≠ some pr := own_old (w' := w7) hown1 hprlt
      have h1b : (Value.slice A1 n2 c1).ownBlock ≠ some (w.heap.size + 1) := own_old (w' := w7) hown1 hblt2
      have h1p0 : (Value.slice A1 n2 c1).ownBlock ≠ some w.heap.size := own_old (w' := w7) hown1 (by omega)
      have HO8 := Lib.hid (own_set (i := 1) (u := (Value.slice A1 n2 c1)) ho7 HVp.out)
      have H18 := Lib.hid (own_set (i := 1) (u := (Value.slice A1 n2 c1)) hown1 h1p)
      have HPR8 := Lib.hid (hpr7.set 1 (Value.slice A1 n2 c1))
      have HP08 := Lib.hid (hp07.other hp0p (i := 1) (Value.slice A1 n2 c1))
      have hin8 : In (w7.setCell ⟨pr, 1, none⟩ (Value.slice A1 n2 c1)) (w.heap.size + 1) st1 := Blk.other hin1 (Ne.symm hprb) (Value.slice A1 n2 c1)
      have hbl8 := hbl7.setCell (p := ⟨pr, 1, none⟩) (Nat.le_of_lt hp0lt) (Value.slice A1 n2 c1)
      have HBL8 := Lib.hid hbl8
      have HSO1 := Lib.hid hso1
      have HU1 := Lib.hid hu1
      have H1P := Lib.hid h1p
      have H1B := Lib.hid h1b
      have H1P0 := Lib.hid h1p0
      have HIN8 := Lib.hid hin8
      have hw8sz : (w7.setCell ⟨pr, 1, none⟩ (Value.slice A1 n2 c1)).heap.size = w7.heap.size := by simp [World.setCell]
      have hw8s : wr.heap.size ≤ (w7.setCell ⟨pr, 1, none⟩ (Value.slice A1 n2 c1)).heap.size := by rw [hw8sz]; exact hu1.size
      clear hpr7 hp07 ho7 hbl7 h1p h1b h1p0 hin8 hbl8 hso1 hin1 hown1 hu1 HFS HU1 HPR HP0 HO HBL hw8sz HEW HIN
      go_wp2_with fail
      clear d1 g1
      generalize w7.setCell ⟨pr, 1, none⟩ (Value.slice A1 n2 c1) = w8 at *
      have HFS2 := Lib.hid (files_any w.heap.size (w.heap.size + 1) n3 st1 w8 HIN8.out (HE.out.below HBL8.out) HEB.out hbb (by omega) (Nat.le_trans hrl1 hrl))
      unfold ptr at HFS2
      refine HFS2.out.mono ?_
      rintro e w9 ⟨VX2, l2, st2, rfl, hown2, hin2, hu2, hso2, hrl2⟩
      obtain ⟨A2, c2, rfl⟩ := own_shape hown2
      have hwsz8 : w.heap.size ≤ w8.heap.size := by omega
      have hpr9 := HPR8.out.upd hu2 hprb
      have hp09 := HP08.out.upd hu2 hne
      have ho9 := own_upd HO8.out hu2 HVb.out
      have h19 := own_upd H18.out hu2 H1B.out
      have hbl9 := below_one HBL8.out hwsz8 hbb hu2
      have d2 : w9.cell? ⟨pr, 2, none⟩ = some (.slice none 0 0) := hpr9.cell 2
      have g2 := hpr9.free 2
      have h2p : (Value.slice A2 n3 c2).ownBlock ≠ some pr := own_old (w' := w9) hown2 (by omega)
      have h2p0 : (Value.slice A2 n3 c2).ownBlock ≠ some w.heap.size := own_old (w' := w9) hown2 (by omega)
      have HO10 := Lib.hid (own_set (i := 2) (u := (Value.slice A2 n3 c2)) ho9 HVp.out)
      have H110 := Lib.hid (own_set (i := 2) (u := (Value.slice A2 n3 c2)) h19 H1P.out)
      have H210 := Lib.hid (own_set (i := 2) (u := (Value.slice A2 n3 c2)) hown2 h2p)
      have HPR10 := Lib.hid (hpr9.set 2 (Value.slice A2 n3 c2))
      have HP010 := Lib.hid (hp09.other hp0p (i := 2) (Value.slice A2 n3 c2))
      have hin10 : In (w9.setCell ⟨pr, 2, none⟩ (Value.slice A2 n3 c2)) (w.heap.size + 1) st2 := Blk.other hin2 (Ne.symm hprb) (Value.slice A2 n3 c2)
      have HBL10 := Lib.hid (hbl9.setCell (p := ⟨pr, 2, none⟩) (Nat.le_of_lt hp0lt) (Value.slice A2 n3 c2))
      have HREC := Lib.hid (HFIN.out _ _ _ _ _ _ HSO.out HSO1.out hso2)
      have H2P0 := Lib.hid h2p0
      have HIN10 := Lib.hid hin10
      clear hpr9 hp09 ho9 h19 hbl9 h2p h2p0 hin10 hso2 hin2 hown2 hu2 HFS2 HPR8 HP08 HO8 H18 HBL8 HSO HSO1 HFIN HIN8 hwsz8 hw8s
      obtain ⟨w10, hw10⟩ : ∃ w10, w10 = w9.setCell ⟨pr, 2, none⟩ (Value.slice A2 n3 c2) := ⟨_, rfl⟩
      rw [← hw10] at HO10 H110 H210 HPR10 HP010 HBL10 HIN10
      have x0 := HIN10.out.cell0
      have x1 := HIN10.out.cell1
      have y0 : w10.cell? ⟨w.heap.size, 0, none⟩ = some (.slice none 0 0) := HP010.out.cell 0
      have y1 : w10.cell? ⟨w.heap.size, 1, none⟩ = some (.slice none 0 0) := HP010.out.cell 1
      have y2 : w10.cell? ⟨w.heap.size, 2, none⟩ = some (.slice none 0 0) := HP010.out.cell 2
      have z0 := HP010.out.free 0
      have z1 := HP010.out.free 1
      have z2 := HP010.out.free 2
      have v0 : w10.cell? ⟨pr, 0, none⟩ = some (.slice AV k cV) := HPR10.out.cell 0
      have v1 : w10.cell? ⟨pr, 1, none⟩ = some (.slice A1 n2 c1) := HPR10.out.cell 1
      have v2 : w10.cell? ⟨pr, 2, none⟩ = some (.slice A2 n3 c2) := HPR10.out.cell 2
      rw [hw10] at x0 x1 y0 y1 y2 z0 z1 z2 v0 v1 v2
      have HW10 := Lib.hid hw10
      clear hw10
      cases st2 with
      | none =>
        have e1 : (none : Option Bs).isNone = true := rfl
        rw [e1] at x1
        have HR2 : Hid (recO nameB q = none) := Lib.hid (HREC.out.trans (if_neg (by simp)))
        go_wp2
        refine bodyPost_ret (v := .tuple #[.agg #[.slice none 0 0, .slice none 0 0, .slice none 0 0], .iface 66 (.int .i64 4)]) ?_ rfl ?_
        · rw [results_cell_tmp rfl]
          go_simp
        · rw [← HW10.out]
          refine ⟨((HBL10.out.setCell (p := ⟨w.heap.size, 0, none⟩) (Nat.le_refl _) _).setCell (p := ⟨w.heap.size, 1, none⟩) (Nat.le_refl _) _).setCell (p := ⟨w.heap.size, 2, none⟩) (Nat.le_refl _) _, _, _, _, _, _, _, _, _, _, by rw [HR2.out]; rfl, ?_, ?_, ?_⟩
          · rw [HR2.out]; exact RdS.nil _ _
          · rw [HR2.out]; exact RdF.nil _ _
          · rw [HR2.out]; exact RdF.nil _ _
      | some r =>
        have e1 : (some r : Option Bs).isNone = false := rfl
        rw [e1] at x1
        cases r with
        | nil =>
          have e2 : ba (rest (some [])) = ⟨#[]⟩ := rfl
          rw [e2] at x0
          have HR2 : Hid (recO nameB q = some (l, l1, l2)) := Lib.hid (HREC.out.trans (if_pos rfl))
          go_wp2
          refine bodyPost_ret (v := .tuple #[.agg #[.slice AV k cV, .slice A1 n2 c1, .slice A2 n3 c2], .nilIface]) ?_ rfl ?_
          · rw [results_cell_tmp rfl]
            go_simp
          · rw [← HW10.out]
            have o0 := own_set (i := 2) (u := .slice A2 n3 c2) (own_set (i := 1) (u := .slice A1 n2 c1) (own_set (i := 0) (u := .slice AV k cV) HO10.out HVp0.out) HVp0.out) HVp0.out
            have o1 := own_set (i := 2) (u := .slice A2 n3 c2) (own_set (i := 1) (u := .slice A1 n2 c1) (own_set (i := 0) (u := .slice AV k cV) H110.out H1P0.out) H1P0.out) H1P0.out
            have o2 := own_set (i := 2) (u := .slice A2 n3 c2) (own_set (i := 1) (u := .slice A1 n2 c1) (own_set (i := 0) (u := .slice AV k cV) H210.out H2P0.out) H2P0.out) H2P0.out
            obtain ⟨B0, d0, h0, r0⟩ := RdS.of_own o0
            obtain ⟨B1, d1, h1, r1⟩ := RdF.of_own o1
            obtain ⟨B2, d2, h2, r2⟩ := RdF.of_own o2
            injection h0 with h0 _ h0'
            injection h1 with h1 _ h1'
            injection h2 with h2 _ h2'
            subst h0 h0' h1 h1' h2 h2'
            refine ⟨((HBL10.out.setCell (p := ⟨w.heap.size, 0, none⟩) (Nat.le_refl _) _).setCell (p := ⟨w.heap.size, 1, none⟩) (Nat.le_refl _) _).setCell (p := ⟨w.heap.size, 2, none⟩) (Nat.le_refl _) _, _, _, _, _, _, _, _, _, _, by rw [HR2.out]; rfl, ?_, ?_, ?_⟩
            · rw [HR2.out]; exact r0
            · rw [HR2.out]; exact r1
            · rw [HR2.out]; exact r2
        | cons c r =>
          have e2 : ((ba (rest (some (c :: r)))).toList == []) = false := by simp [rest, ba]
          have e3 : (ba (rest (some (c :: r)))).toList.isEmpty = false := by simp [rest, ba]
          have HR2 : Hid (recO nameB q = none) := Lib.hid (HREC.out.trans (if_neg (by simp)))
          go_wp2
          refine bodyPost_ret (v := .tuple #[.agg #[.slice none 0 0, .slice none 0 0, .slice none 0 0], .iface 66 (.int .i64 4)]) ?_ rfl ?_
          · rw [results_cell_tmp rfl]
            go_simp
          · rw [← HW10.out]
            refine ⟨((HBL10.out.setCell (p := ⟨w.heap.size, 0, none⟩) (Nat.le_refl _) _).setCell (p := ⟨w.heap.size, 1, none⟩) (Nat.le_refl _) _).setCell (p := ⟨w.heap.size, 2, none⟩) (Nat.le_refl _) _, _, _, _, _, _, _, _, _, _, by rw [HR2.out]; rfl, ?_, ?_, ?_⟩
            · rw [HR2.out]; exact RdS.nil _ _
            · rw [HR2.out]; exact RdF.nil _ _
            · rw [HR2.out]; exact RdF.nil _ _
end Go.Proofs.YtpghfefiifhbiaaGreatDoor
