/-
  WALK: hammerpondref.RecordOf: what it gives.
-/
import Derived.Test.YtlkpbpecgdphaaaRcO
import Derived.Test.YtlkpbpecgdphaaaRefGet
namespace Go.Proofs.Ytlkpbpecgdphaaa
open Go.RowKit Go.Sort


set_option maxRecDepth 100000 in
set_option maxHeartbeats 16000000 in
theorem refOf_any (A0 A1 A2 AL AO : Option Addr) (n0 n1 n2 c0 c1 c2 nL cL nO cO : Nat) (ph : Bool) (nd cm : List ByteArray) (l out : List F) (w : World)
    (hn : RdS w w.heap.size A1 n1 c1 nd) (hc : RdS w w.heap.size A2 n2 c2 cm) (hl : RdF w w.heap.size AL nL cL l) (ho : RdF w w.heap.size AO nO cO out) (b1 : n1 ≤ 1000) (bL : nL ≤ 1000) :
    Calls Try.prog 51 #[.agg #[.slice A0 n0 c0, .slice A1 n1 c1, .slice A2 n2 c2, .bool ph], .slice AL nL cL, .slice AO nO cO] w (OfP (cm, ndR l nd, out) w) := by
  obtain ⟨i, hi, hz, hsz, hby⟩ := file_parts
  have HI := Lib.hid hi
  have HZ := Lib.hid hz
  have HSZ := Lib.hid hsz
  have HBY := Lib.hid hby
  obtain ⟨W, hW⟩ : ∃ W, W = ((w.alloc (.cells #[.slice A0 n0 c0, .slice A1 n1 c1, .slice A2 n2 c2, .bool ph] tGr)).alloc (.cells #[.slice none 0 0, .slice none 0 0, .slice none 0 0] tRec)).alloc (.cells #[.slice A2 n2 c2, .slice none 0 0, .slice AO nO cO] tRec) := ⟨_, rfl⟩
  have hbx : Below w.heap.size w W := by rw [hW]; exact (((Below.refl _ w).alloc (Nat.le_refl _) _).alloc (by simp) _).alloc (by simp; omega) _
  have pg : Blk W w.heap.size tGr #[.slice A0 n0 c0, .slice A1 n1 c1, .slice A2 n2 c2, .bool ph] := by rw [hW]; exact ((Blk.new w tGr _).alloc _).alloc _
  have p0 : Blk W (w.heap.size + 1) tRec #[.slice none 0 0, .slice none 0 0, .slice none 0 0] := by
    rw [hW]
    have := (Blk.new (w.alloc (.cells #[.slice A0 n0 c0, .slice A1 n1 c1, .slice A2 n2 c2, .bool ph] tGr)) tRec #[.slice none 0 0, .slice none 0 0, .slice none 0 0]).alloc (.cells #[.slice A2 n2 c2, .slice none 0 0, .slice AO nO cO] tRec)
    rwa [show (w.alloc (.cells #[.slice A0 n0 c0, .slice A1 n1 c1, .slice A2 n2 c2, .bool ph] tGr)).heap.size = w.heap.size + 1 by simp] at this
  have pr : Blk W (w.heap.size + 2) tRec #[.slice A2 n2 c2, .slice none 0 0, .slice AO nO cO] := by
    rw [hW]
    have := Blk.new ((w.alloc (.cells #[.slice A0 n0 c0, .slice A1 n1 c1, .slice A2 n2 c2, .bool ph] tGr)).alloc (.cells #[.slice none 0 0, .slice none 0 0, .slice none 0 0] tRec)) tRec #[.slice A2 n2 c2, .slice none 0 0, .slice AO nO cO]
    rwa [show ((w.alloc (.cells #[.slice A0 n0 c0, .slice A1 n1 c1, .slice A2 n2 c2, .bool ph] tGr)).alloc (.cells #[.slice none 0 0, .slice none 0 0, .slice none 0 0] tRec)).heap.size = w.heap.size + 2 by simp] at this
  have hWs : W.heap.size = w.heap.size + 3 := by rw [hW]; simp
  have HBX := Lib.hid hbx
  have PG := Lib.hid pg
  have P0 := Lib.hid p0
  have PR := Lib.hid pr
  have WS := Lib.hid hWs
  have HNw := Lib.hid hn
  have HCw := Lib.hid hc
  have HLw := Lib.hid hl
  have HOw := Lib.hid ho
  have LN := Lib.hid hn.1
  have HW := Lib.hid hW
  have HUP := Lib.hid (fun (wr : World) (hu : Upd W wr (One (w.heap.size + 2))) => hbx.trans (hu.below (B := w.heap.size) hbx.size (fun k hk => by rw [show k = w.heap.size + 2 from hk]; omega)))
  clear hi hz hsz hby hbx pg p0 pr hWs hn hc hl ho hW
  go_enter Try.func51, Try.ntmps51
  go_wp2
  rw [← HW.out]
  clear HW
  go_loopw [8] (fun v wr => OfRel W (w.heap.size + 2) (.slice A2 n2 c2) (.slice AO nO cO) l nd n1 v wr) (fun v _ => n1 - (intOf v).toNat)
  case atStart => exact ⟨0, .slice none 0 0, Nat.zero_le _, rfl, World.ownsRow_nil _ _ _ _, PR.out, Upd.refl _ _⟩
  case round =>
    obtain ⟨k, V, hk, rfl, hown, hpr, hu⟩ := hrel
    have HOW := Lib.hid hown
    have PRR := Lib.hid hpr
    have HU := Lib.hid hu
    have HBW := Lib.hid (HUP.out wr hu)
    have hpg : Blk wr w.heap.size tGr #[.slice A0 n0 c0, .slice A1 n1 c1, .slice A2 n2 c2, .bool ph] := PG.out.upd hu (by show ¬ (w.heap.size = w.heap.size + 2); omega)
    have PGR := Lib.hid hpg
    have x1 : wr.cell? ⟨w.heap.size, 1, none⟩ = some (.slice A1 n1 c1) := hpg.cell 1
    clear hown hpr hu hpg
    by_cases hlt : k < n1
    · obtain ⟨nm, hf⟩ : ∃ f, nd[k]? = some f := ⟨_, List.getElem?_eq_getElem (by rw [LN.out]; exact hlt)⟩
      obtain ⟨b', off, rfl, hb', hc1⟩ := (HNw.out.below HBW.out).at_ hf
      have hkz : (k : Int) < (n1 : Int) := by omega
      have HTK := Lib.hid (ndR_take (l := l) hf)
      have HLR := Lib.hid (show RdF wr wr.heap.size AL nL cL l from RdF.belowS HLw.out HBW.out)
      have hlen : (ndR l (nd.take k)).length ≤ 1000 := by have := ndR_len l (nd.take k); have h2 : (nd.take k).length ≤ k := List.length_take_le _ _; omega
      clear hf
      go_wp2_with fail
      refine (refGet_any AL nL cL l nm wr HLR.out (by omega)).mono ?_
      rintro e w6 ⟨rfl, rfl⟩
      obtain ⟨AV, cV, rfl⟩ := own_shape HOW.out
      clear HLR
      cases hh : has l nm with
      | false =>
        have htk := HTK.out
        rw [hh, if_neg (by simp), List.append_nil] at htk
        have HTK2 := Lib.hid htk
        clear htk hh HTK
        go_wp2
        go_roundw
        case rel => exact ⟨k + 1, _, by omega, by go_num, by rw [HTK2.out]; exact HOW.out, PRR.out, HU.out⟩
        case measure => simp [intOf]; omega
      | true =>
        have htk := HTK.out
        rw [hh, if_pos rfl] at htk
        have HTK2 := Lib.hid htk
        clear htk hh HTK
        generalize ht : textF l nm = tx at *
        clear ht
        have c1' : wr.cell? ⟨w.heap.size + 2, 1, none⟩ = some (.slice AV (ndR l (nd.take k)).length cV) := PRR.out.cell 1
        have H1 := Lib.hid (rdx_file wr nm tx)
        have hw5 : W.heap.size ≤ wr.heap.size := HU.out.size
        have hsz1 : W.heap.size ≤ ((wr.alloc (.cells #[.string nm, .string tx] tFi)).drew).heap.size := by show W.heap.size ≤ (wr.alloc (.cells #[.string nm, .string tx] tFi)).heap.size; simp; omega
        have HO1 := Lib.hid (show ((wr.alloc (.cells #[.string nm, .string tx] tFi)).drew).ownsRow W.heap.size tFi 2 (.slice AV (ndR l (nd.take k)).length cV) (ndR l (nd.take k)).length (fcells (ndR l (nd.take k))) from HOW.out.alloc (.cells #[.string nm, .string tx] tFi))
        have PR7 := Lib.hid (show Blk ((wr.alloc (.cells #[.string nm, .string tx] tFi)).drew) (w.heap.size + 2) tRec #[.slice A2 n2 c2, .slice AV (ndR l (nd.take k)).length cV, .slice AO nO cO] from PRR.out.alloc (.cells #[.string nm, .string tx] tFi))
        have PG7 := PGR.out.alloc (.cells #[.string nm, .string tx] tFi)
        have HU7 := Lib.hid (HU.out.two (show Upd wr ((wr.alloc (.cells #[.string nm, .string tx] tFi)).drew) (One (w.heap.size + 2)) from ((Upd.refl wr _).alloc _).drew))
        have q1 : (wr.alloc (.cells #[.string nm, .string tx] tFi)).cell? ⟨w.heap.size + 2, 1, none⟩ = some (.slice AV (ndR l (nd.take k)).length cV) := PR7.out.cell 1
        have q2 : (wr.alloc (.cells #[.string nm, .string tx] tFi)).cell? ⟨w.heap.size, 1, none⟩ = some (.slice (some ⟨b', off, none⟩) n1 c1) := PG7.cell 1
        have hk0 : (0 : Int) ≤ (k : Int) := by omega
        clear hw5 PG7
        go_wp2_with fail
        go_region_law
          (first
            | (refine step_append_rd _ (by rfl) (.tmp 34) (.tmp 42) _ (by rfl) W.heap.size tFi i _ 2 32 Try.underlying22 HI.out HZ.out HSZ.out HBY.out rfl (by decide) _ (ndR l (nd.take k)).length _ (by rfl) HO1.out (some ⟨wr.heap.size, 0, none⟩) 1 1 [.string nm, .string tx] (by rfl) H1.out (by unfold maxLen; omega) (by omega) hsz1 ?_; intro v9 w9 hown2 hg2 _; obtain ⟨A9, c9, rfl⟩ := own_shape hown2; have hpr9 := PR7.out.grown hg2 (row_block_ne HO1.out PR7.out (by decide)); have d1 : w9.cell? ⟨w.heap.size + 2, 1, none⟩ = some (.slice AV (ndR l (nd.take k)).length cV) := hpr9.cell 1; have e1 := hpr9.free 1; have PR9 := Lib.hid (hpr9.set 1 (.slice A9 ((ndR l (nd.take k)).length + 1) c9)); have HO9 := Lib.hid (own_set (i := 1) (u := .slice A9 ((ndR l (nd.take k)).length + 1) c9) hown2 (row_block_ne hown2 hpr9 (by decide))); have HU9 := Lib.hid ((show Upd W w9 (One (w.heap.size + 2)) from ⟨hg2.os.trans HU7.out.os, hg2.tape.trans HU7.out.tape, hg2.output.trans HU7.out.output, Nat.le_trans HU7.out.size hg2.size, fun j hj hn => (hg2.block j (Nat.lt_of_lt_of_le hj HU7.out.size) (fun e => by have := (HO1.out.lt j e.symm).1; omega)).trans (HU7.out.block j hj hn)⟩).setOne 1 (.slice A9 ((ndR l (nd.take k)).length + 1) c9)); clear hown2 hg2 hpr9))
        all_goals (
          clear c1' H1 HO1 PR7 HU7 q1 q2
          go_wp2
          go_roundw
          case rel =>
            refine ⟨k + 1, .slice A9 ((ndR l (nd.take k)).length + 1) c9, by omega, by go_num, ?_, PR9.out, HU9.out⟩
            have := HO9.out
            rw [HTK2.out, List.length_append, fcells_append]
            exact this
          case measure => simp [intOf]; omega)
    · obtain rfl : k = n1 := by omega
      have hown : wr.ownsRow W.heap.size tFi 2 V (ndR l nd).length (fcells (ndR l nd)) := by
        have := HOW.out
        rwa [List.take_of_length_le (by rw [LN.out]; exact Nat.le_refl _)] at this
      obtain ⟨AV, cV, rfl⟩ := own_shape hown
      have hp0 : Blk wr (w.heap.size + 1) tRec #[.slice none 0 0, .slice none 0 0, .slice none 0 0] := P0.out.upd HU.out (by show ¬ (w.heap.size + 1 = w.heap.size + 2); omega)
      have a0 : wr.cell? ⟨w.heap.size + 2, 0, none⟩ = some (.slice A2 n2 c2) := PRR.out.cell 0
      have a1 : wr.cell? ⟨w.heap.size + 2, 1, none⟩ = some (.slice AV (ndR l nd).length cV) := PRR.out.cell 1
      have a2 : wr.cell? ⟨w.heap.size + 2, 2, none⟩ = some (.slice AO nO cO) := PRR.out.cell 2
      have y0 : wr.cell? ⟨w.heap.size + 1, 0, none⟩ = some (.slice none 0 0) := hp0.cell 0
      have y1 : wr.cell? ⟨w.heap.size + 1, 1, none⟩ = some (.slice none 0 0) := hp0.cell 1
      have y2 : wr.cell? ⟨w.heap.size + 1, 2, none⟩ = some (.slice none 0 0) := hp0.cell 2
      have z0 := hp0.free 0
      have z1 := hp0.free 1
      have z2 := hp0.free 2
      have HOV := Lib.hid hown
      have HP0 := Lib.hid hp0
      clear hown hp0 HOW
      go_wp2
      refine bodyPost_ret (v := .agg #[.slice A2 n2 c2, .slice AV (ndR l nd).length cV, .slice AO nO cO]) ?_ rfl ?_
      · rw [results_cell1 rfl]
        go_simp
      · have q1 : (Value.slice AV (ndR l nd).length cV).ownBlock ≠ some (w.heap.size + 1) := row_block_ne HOV.out HP0.out (by decide)
        have hbe := ((HBW.out.setCell (p := ⟨w.heap.size + 1, 0, none⟩) (by show w.heap.size ≤ w.heap.size + 1; omega) (.slice A2 n2 c2)).setCell (p := ⟨w.heap.size + 1, 1, none⟩) (by show w.heap.size ≤ w.heap.size + 1; omega) (.slice AV (ndR l nd).length cV)).setCell (p := ⟨w.heap.size + 1, 2, none⟩) (by show w.heap.size ≤ w.heap.size + 1; omega) (.slice AO nO cO)
        obtain ⟨B1, d1, h1, r1⟩ := RdF.of_own (own_set (i := 2) (u := .slice AO nO cO) (own_set (i := 1) (u := .slice AV (ndR l nd).length cV) (own_set (i := 0) (u := .slice A2 n2 c2) HOV.out q1) q1) q1)
        injection h1 with h1 _ h1'
        subst h1 h1'
        exact ⟨_, rfl, ⟨_, _, _, _, _, _, _, _, _, rfl, RdS.belowS HCw.out hbe, r1, RdF.belowS HOw.out hbe⟩, hbe⟩
end Go.Proofs.Ytlkpbpecgdphaaa
