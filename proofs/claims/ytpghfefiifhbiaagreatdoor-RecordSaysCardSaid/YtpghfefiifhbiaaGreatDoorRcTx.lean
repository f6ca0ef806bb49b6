/-
  WALK: hammerpondref.RecordText: the text of a record.
-/
import Derived.Test.YtpghfefiifhbiaaGreatDoorRcDc
import Derived.Test.YtpghfefiifhbiaaGreatDoorRcX
import Derived.Test.YtpghfefiifhbiaaGreatDoorApp
import Derived.Test.YtpghfefiifhbiaaGreatDoorRcR
namespace Go.Proofs.YtpghfefiifhbiaaGreatDoor
open Go.RowKit Go.Sort

theorem cell_gr {w w' : World} {a : Addr} {v : Value} (h : w.cell? a = some v) (hg : Gr w w') : w'.cell? a = some v := (hg.below.cell (World.block_lt_of_cell? _ _ h)).trans h
def TxRel (W : World) (hd : Bs) (l : List ByteArray) (n : Nat) (v3 v4 : Value) (wr : World) : Prop := ∃ k : Nat, k ≤ n ∧ v4 = .int .i64 k ∧ v3 = .string (ba (hd ++ (l.take k).flatMap txL)) ∧ Gr W wr
def FxRel (W : World) (hd : Bs) (l : List F) (n : Nat) (v3 v6 : Value) (wr : World) : Prop := ∃ k : Nat, k ≤ n ∧ v6 = .int .i64 k ∧ v3 = .string (ba (hd ++ (l.take k).flatMap flL)) ∧ Gr W wr
theorem dec_at (m : Nat) (hm : m ≤ 1000000) (W : World) : ∀ n os, Calls Tryz.prog 30 #[.int .i64 m] (grow (W.drewN n) os) fun e w' => e = .returned (.string (ba (numL m))) ∧ ∃ q os', w' = grow ((grow (W.drewN n) os).drewN q) os' := fun n os => decimal_any m _ (by omega)
theorem rdx_of {w : World} {B : Nat} {A : Option Addr} {n c : Nat} {l : List F} (h : RdF w B A n c l) : RdX w 2 A n (fcells l) :=
  ⟨by rw [fcells_len, h.1], fcells_one l, fun hn => by obtain ⟨b, off, e, _, hc⟩ := h.2.2.2 hn; exact ⟨b, off, e, hc⟩⟩

set_option maxRecDepth 100000 in
set_option maxHeartbeats 16000000 in
theorem refText_any (A0 A1 A2 : Option Addr) (n0 c0 n1 c1 n2 c2 : Nat) (l0 : List ByteArray) (l1 l2 : List F) (w : World)
    (hr0 : RdS w w.heap.size A0 n0 c0 l0) (hr1 : RdF w w.heap.size A1 n1 c1 l1) (hr2 : RdF w w.heap.size A2 n2 c2 l2) (hl0 : ShrtT l0) (hl1 : Shrt l1) (hl2 : Shrt l2) :
    Calls Tryz.prog 13 #[.agg #[.slice A0 n0 c0, .slice A1 n1 c1, .slice A2 n2 c2]] w fun e w' => e = .returned (.string (ba (recL (l0, l1, l2)))) ∧ Below w.heap.size w w' := by
  obtain ⟨i, hi, hz, hsz, hby⟩ := file_parts
  have HI := Lib.hid hi
  have HZ := Lib.hid hz
  have HSZ := Lib.hid hsz
  have HBY := Lib.hid hby
  have hn0 : n0 ≤ 1000 := by have := hl0.1; rw [hr0.1] at this; exact this
  have hn1 : n1 ≤ 1000 := by have := hl1.1; rw [hr1.1] at this; exact this
  have hn2 : n2 ≤ 1000 := by have := hl2.1; rw [hr2.1] at this; exact this
  have hbx : Below w.heap.size w (w.alloc (.cells #[.slice A0 n0 c0, .slice A1 n1 c1, .slice A2 n2 c2] tRec)) := (Below.refl _ w).alloc (Nat.le_refl _) _
  have p0 := Blk.new w tRec #[.slice A0 n0 c0, .slice A1 n1 c1, .slice A2 n2 c2]
  have HBX := Lib.hid hbx
  have P0 := Lib.hid p0
  have R0 := Lib.hid (RdS.belowS hr0 hbx)
  have R1 := Lib.hid (RdF.belowS hr1 hbx)
  have R2 := Lib.hid (RdF.belowS hr2 hbx)
  have HS0 := Lib.hid hl0
  have HS1 := Lib.hid hl1
  have HS2 := Lib.hid hl2
  have LN0 := Lib.hid hr0.1
  have LN1 := Lib.hid hr1.1
  have LN2 := Lib.hid hr2.1
  obtain ⟨W, hW⟩ : ∃ W, W = w.alloc (.cells #[.slice A0 n0 c0, .slice A1 n1 c1, .slice A2 n2 c2] tRec) := ⟨_, rfl⟩
  rw [← hW] at HBX P0 R0 R1 R2
  have HW := Lib.hid hW
  have a0 : W.cell? ⟨w.heap.size, 0, none⟩ = some (.slice A0 n0 c0) := P0.out.cell 0
  have a1 : W.cell? ⟨w.heap.size, 1, none⟩ = some (.slice A1 n1 c1) := P0.out.cell 1
  have a2 : W.cell? ⟨w.heap.size, 2, none⟩ = some (.slice A2 n2 c2) := P0.out.cell 2
  have i0 := fun n os => cell_gr a0 (⟨n, os, rfl⟩ : Gr W (grow (W.drewN n) os))
  have i1 := fun n os => cell_gr a1 (⟨n, os, rfl⟩ : Gr W (grow (W.drewN n) os))
  have i2 := fun n os => cell_gr a2 (⟨n, os, rfl⟩ : Gr W (grow (W.drewN n) os))
  have D0 := Lib.hid (dec_at n0 (by omega) W)
  have D1 := Lib.hid (dec_at n1 (by omega) W)
  have D2 := Lib.hid (dec_at n2 (by omega) W)
  obtain ⟨x0, hx0⟩ : ∃ x, x = ba (numL n0) := ⟨_, rfl⟩
  obtain ⟨x1, hx1⟩ : ∃ x, x = ba (numL n1) := ⟨_, rfl⟩
  obtain ⟨x2, hx2⟩ : ∃ x, x = ba (numL n2) := ⟨_, rfl⟩
  have b0 : x0.size ≤ 9 := by rw [hx0, ba_size]; exact numL_short (by omega)
  have b1 : x1.size ≤ 9 := by rw [hx1, ba_size]; exact numL_short (by omega)
  have b2 : x2.size ≤ 9 := by rw [hx2, ba_size]; exact numL_short (by omega)
  rw [← hx0] at D0
  rw [← hx1] at D1
  rw [← hx2] at D2
  have HHD : Hid ((((x0 ++ ⟨#[32]⟩) ++ x1) ++ ⟨#[32]⟩) ++ x2 = ba (hdL n0 n1 n2)) := Lib.hid (by
    rw [hx0, hx1, hx2, show (⟨#[32]⟩ : ByteArray) = ba [32] from rfl, ← ba_append, ← ba_append, ← ba_append, ← ba_append]
    simp [hdL])
  have s1 : ¬ (9223372036854775807 < x0.size + 1) := by omega
  have s2 : ¬ (9223372036854775807 < x0.size + 1 + x1.size) := by omega
  have s3 : ¬ (9223372036854775807 < x0.size + 1 + x1.size + 1) := by omega
  have s4 : ¬ (9223372036854775807 < x0.size + 1 + x1.size + 1 + x2.size) := by omega
  clear hi hz hsz hby hbx p0 hr0 hr1 hr2 hl0 hl1 hl2 hW hx0 hx1 hx2
  go_enter Tryz.func13, Tryz.ntmps13
  go_wp2_with fail
  rw [← HW.out]
  refine wp_region_quiet_grown (by kernel_rfl) (by kernel_rfl) ?_
  repeat (go_big_quiet_step (first | (go_at_call 30; (with_reducible refine Calls.grown_of (D0.out _ _))) | (go_at_call 30; (with_reducible refine Calls.grown_of (D1.out _ _))) | (go_at_call 30; (with_reducible refine Calls.grown_of (D2.out _ _)))))
  refine wpQuiet_nil ?_
  intro _ hw'
  obtain ⟨⟨nq, osq⟩, hw''⟩ := hw'
  subst hw''
  rw [HHD.out]
  obtain ⟨hd, hhd⟩ : ∃ hd, hd = hdL n0 n1 n2 := ⟨_, rfl⟩
  have hdl : hd.length ≤ 40 := by
    rw [hhd]
    have q1 := numL_short (n := n0) (by omega)
    have q2 := numL_short (n := n1) (by omega)
    have q3 := numL_short (n := n2) (by omega)
    simp only [hdL, List.length_append, List.length_cons]
    omega
  rw [← hhd]
  have HH := Lib.hid hhd
  have HG0 := Lib.hid (⟨nq, osq, rfl⟩ : Gr W (grow (W.drewN nq) osq))
  generalize grow (W.drewN nq) osq = w2 at *
  clear a0 a1 a2 i0 i1 i2 D0 D1 D2 b0 b1 b2 s1 s2 s3 s4 HHD hhd
  go_wp2
  go_loopw [3, 4] (fun v3 v4 wr => TxRel W hd l0 n0 v3 v4 wr) (fun _ v4 _ => n0 - (intOf v4).toNat)
  case atStart => exact ⟨0, Nat.zero_le _, rfl, by simp, HG0.out⟩
  case round =>
    clear HG0
    obtain ⟨k, hk, rfl, rfl, hg⟩ := hrel
    have HG := Lib.hid hg
    have a0 : wr.cell? ⟨w.heap.size, 0, none⟩ = some (.slice A0 n0 c0) := cell_gr (P0.out.cell 0) hg
    have a1 : wr.cell? ⟨w.heap.size, 1, none⟩ = some (.slice A1 n1 c1) := cell_gr (P0.out.cell 1) hg
    have a2 : wr.cell? ⟨w.heap.size, 2, none⟩ = some (.slice A2 n2 c2) := cell_gr (P0.out.cell 2) hg
    have htk := HS0.out.take k
    obtain ⟨q, hq⟩ : ∃ q, q = hd ++ (l0.take k).flatMap txL := ⟨_, rfl⟩
    have hql : q.length ≤ 1200000 := by rw [hq, List.length_append]; omega
    obtain ⟨t, ht⟩ : ∃ t, t = ba q := ⟨_, rfl⟩
    have htl : t.size ≤ 1200000 := by rw [ht, ba_size]; exact hql
    rw [← hq, ← ht]
    have HQ := Lib.hid hq
    have HT := Lib.hid ht
    clear hg htk hq ht hql
    by_cases hlt : k < n0
    · obtain ⟨f, hf⟩ : ∃ f, l0[k]? = some f := ⟨_, List.getElem?_eq_getElem (by rw [LN0.out]; exact hlt)⟩
      obtain ⟨b', off, rfl, hbB, hc1⟩ := (R0.out.below HG.out.below).at_ hf
      have hkz : (k : Int) < (n0 : Int) := by omega
      have hk0 : (0 : Int) ≤ (k : Int) := by omega
      have hsz := HS0.out.2 f (List.mem_of_getElem? hf)
      have HTK := Lib.hid (take_flat (g := txL) hf)
      have i0 := fun n os => cell_gr a0 (⟨n, os, rfl⟩ : Gr wr (grow (wr.drewN n) os))
      have i1 := fun n os => cell_gr hc1 (⟨n, os, rfl⟩ : Gr wr (grow (wr.drewN n) os))
      have D := Lib.hid (dec_at f.size (by omega) wr)
      obtain ⟨x, hx⟩ : ∃ x, x = ba (numL f.size) := ⟨_, rfl⟩
      have b0 : x.size ≤ 9 := by rw [hx, ba_size]; exact numL_short (by omega)
      rw [← hx] at D
      have HE : Hid ((((t ++ ⟨#[32]⟩) ++ x) ++ ⟨#[58]⟩) ++ f = ba (q ++ txL f)) := Lib.hid (by
        rw [HT.out, hx, show (⟨#[32]⟩ : ByteArray) = ba [32] from rfl, show (⟨#[58]⟩ : ByteArray) = ba [58] from rfl, ← ba_of f, ← ba_append, ← ba_append, ← ba_append, ← ba_append]
        simp [txL, ba_data])
      have s1 : ¬ (9223372036854775807 < t.size + 1) := by omega
      have s2 : ¬ (9223372036854775807 < t.size + 1 + x.size) := by omega
      have s3 : ¬ (9223372036854775807 < t.size + 1 + x.size + 1) := by omega
      have s4 : ¬ (9223372036854775807 < t.size + 1 + x.size + 1 + f.size) := by omega
      clear hf hx a1 a2
      go_wp2_with fail
      refine wp_region_quiet_grown (by kernel_rfl) (by kernel_rfl) ?_
      repeat (go_big_quiet_step (first | (go_at_call 30; (with_reducible refine Calls.grown_of (D.out _ _)))))
      refine wpQuiet_nil ?_
      intro _ hw'
      obtain ⟨⟨nq2, osq2⟩, hw''⟩ := hw'
      subst hw''
      rw [HE.out]
      have HG2 := Lib.hid (HG.out.trans ⟨nq2, osq2, rfl⟩)
      clear i0 i1 a0 hc1 D s1 s2 s3 s4
      generalize grow (wr.drewN nq2) osq2 = w3 at *
      go_wp2
      go_roundw
      case rel => exact ⟨k + 1, by omega, by go_num, by rw [HTK.out, ← List.append_assoc, ← HQ.out], HG2.out⟩
      case measure => simp [intOf]; omega
    · obtain rfl : k = n0 := by omega
      have HBW := Lib.hid (HBX.out.trans (HG.out.below.mono HBX.out.size))
      have hR1 := R1.out.below HG.out.below
      have hR2 := R2.out.below HG.out.below
      have hwW : W.heap.size ≤ wr.heap.size := HG.out.below.size
      have X1 := Lib.hid (show RdX wr.drew 2 A1 n1 (fcells l1) from rdx_of hR1)
      have HR2 := Lib.hid hR2
      have ON := Lib.hid (World.ownsRow_nil wr.drew wr.heap.size tFi 2)
      have hfull : (l0.take k).flatMap txL = l0.flatMap txL := by rw [List.take_of_length_le (by rw [LN0.out]; exact Nat.le_refl _)]
      rw [hfull] at HQ
      clear hR1 hR2 hfull
      go_wp2_with fail
      go_region_law
        (first
          | (refine step_append_rd _ (by rfl) (.const (.slice none 0 0)) (.tmp 48) _ (by rfl) wr.heap.size tFi i _ 2 32 Tryz.underlying25 HI.out HZ.out HSZ.out HBY.out rfl (by decide) _ 0 _ (by rfl) ON.out A1 n1 c1 (fcells l1) (by rfl) X1.out (by unfold maxLen; omega) (by omega) (Nat.le_refl _) ?_; intro v5 w5 own5' g5 _; have own5 : w5.ownsRow wr.heap.size tFi 2 v5 n1 (fcells l1) := (by simpa using own5'); clear own5'; obtain ⟨A5, c5, rfl⟩ := own_shape own5; have hb5 : Below wr.heap.size wr w5 := (Below.refl _ _).drew.grown g5 (Nat.le_refl _) (fun g hg => by cases hg); have a2' : w5.cell? ⟨w.heap.size, 2, none⟩ = some (.slice A2 n2 c2) := (hb5.cell (World.block_lt_of_cell? _ _ a2)).trans a2; have HO5 := Lib.hid own5; have HB5 := Lib.hid hb5; have X2 := Lib.hid (rdx_of (HR2.out.below (hb5.mono hwW))); clear own5 g5 hb5)
          | (refine step_append_rd _ (by rfl) (.tmp 49) (.tmp 51) _ (by rfl) wr.heap.size tFi i _ 2 32 Tryz.underlying25 HI.out HZ.out HSZ.out HBY.out rfl (by decide) _ n1 _ (by rfl) HO5.out A2 n2 c2 (fcells l2) (by rfl) X2.out (by unfold maxLen; omega) (by omega) HB5.out.size ?_; intro v6 w6 own6 g6 _; obtain ⟨A6, c6, rfl⟩ := own_shape own6; have HB6 := Lib.hid (HB5.out.grown g6 HB5.out.size (fun g hg => (HO5.out.lt g hg).1)); have HO6 := Lib.hid own6; clear own6 g6))
      all_goals (
        have ho6 : w6.ownsRow wr.heap.size tFi 2 (.slice A6 (n1 + n2) c6) (n1 + n2) (fcells (l1 ++ l2)) := by rw [fcells_append]; exact HO6.out
        obtain ⟨A', c', he, hr6⟩ := RdF.of_own ho6
        injection he with he1 _ he2
        subst he1 he2
        have R6 := Lib.hid hr6
        have LN6 := Lib.hid hr6.1
        have HB7 := Lib.hid (HBW.out.trans (HB6.out.mono HBW.out.size))
        have HQ2 := Lib.hid (show q = hd ++ l0.flatMap txL from HQ.out)
        clear ho6 hr6 a0 a1 a2 X1 X2 ON HO5 HB5 HO6 HB6 HQ a2'
        go_wp2
        go_loopw [3, 6] (fun v3 v6 wr => FxRel w6 q (l1 ++ l2) (n1 + n2) v3 v6 wr) (fun _ v6 _ => n1 + n2 - (intOf v6).toNat)
        case atStart => exact ⟨0, Nat.zero_le _, rfl, by rw [HT.out]; simp, Gr.refl _⟩
        case round =>
          obtain ⟨j, hj, rfl, rfl, hg⟩ := hrel
          have HGJ := Lib.hid hg
          have hsl : Shrt l1 := HS1.out
          have hsl2 : Shrt l2 := HS2.out
          have htk : (((l1 ++ l2).take j).flatMap flL).length ≤ 4200000 := by
            have e : ((l1 ++ l2).take j).flatMap flL = (l1.take j).flatMap flL ++ (l2.take (j - l1.length)).flatMap flL := by rw [List.take_append, List.flatMap_append]
            rw [e, List.length_append]
            have := hsl.take j
            have := hsl2.take (j - l1.length)
            omega
          have hq0 : q.length ≤ 1200000 := by
            have : t.size = q.length := by rw [HT.out, ba_size]
            omega
          obtain ⟨p, hp⟩ : ∃ p, p = q ++ ((l1 ++ l2).take j).flatMap flL := ⟨_, rfl⟩
          have hpl : p.length ≤ 5400000 := by rw [hp, List.length_append]; omega
          obtain ⟨u, hu⟩ : ∃ u, u = ba p := ⟨_, rfl⟩
          have hul : u.size ≤ 5400000 := by rw [hu, ba_size]; exact hpl
          rw [← hp, ← hu]
          have HP := Lib.hid hp
          have HU := Lib.hid hu
          clear hg htk hp hu hpl hq0
          by_cases hlt2 : j < n1 + n2
          · obtain ⟨f, hf⟩ : ∃ f, (l1 ++ l2)[j]? = some f := ⟨_, List.getElem?_eq_getElem (by rw [LN6.out]; exact hlt2)⟩
            obtain ⟨b', off, rfl, hbB, hc1, hc2⟩ := (R6.out.below HGJ.out.below).at_ hf
            have hkz : (j : Int) < ((n1 + n2 : Nat) : Int) := by omega
            have hkz2 : (j : Int) < (n1 : Int) + (n2 : Int) := by omega
            have hk0 : (0 : Int) ≤ (j : Int) := by omega
            have hsz : f.1.size ≤ 1000 ∧ f.2.size ≤ 1000 := by
              rcases List.mem_append.1 (List.mem_of_getElem? hf) with h | h
              · exact hsl.2 f h
              · exact hsl2.2 f h
            have HTK := Lib.hid (take_flat (g := flL) hf)
            obtain ⟨fx, ft⟩ := f
            dsimp only at hc1 hc2 hsz
            obtain ⟨hz1, hz2⟩ := hsz
            have i0 := fun n os => cell_gr hc1 (⟨n, os, rfl⟩ : Gr wr (grow (wr.drewN n) os))
            have i1 := fun n os => cell_gr hc2 (⟨n, os, rfl⟩ : Gr wr (grow (wr.drewN n) os))
            have D := Lib.hid (dec_at ft.size (by omega) wr)
            obtain ⟨x, hx⟩ : ∃ x, x = ba (numL ft.size) := ⟨_, rfl⟩
            have b0 : x.size ≤ 9 := by rw [hx, ba_size]; exact numL_short (by omega)
            rw [← hx] at D
            have HE : Hid ((((((u ++ ⟨#[32]⟩) ++ fx) ++ ⟨#[32]⟩) ++ x) ++ ⟨#[58]⟩) ++ ft = ba (p ++ flL (fx, ft))) := Lib.hid (by
              rw [HU.out, hx, show (⟨#[32]⟩ : ByteArray) = ba [32] from rfl, show (⟨#[58]⟩ : ByteArray) = ba [58] from rfl, ← ba_of fx, ← ba_of ft, ← ba_append, ← ba_append, ← ba_append, ← ba_append, ← ba_append, ← ba_append]
              simp [flL, txL, ba_data])
            have s1 : ¬ (9223372036854775807 < u.size + 1) := by omega
            have s2 : ¬ (9223372036854775807 < u.size + 1 + fx.size) := by omega
            have s3 : ¬ (9223372036854775807 < u.size + 1 + fx.size + 1) := by omega
            have s4 : ¬ (9223372036854775807 < u.size + 1 + fx.size + 1 + x.size) := by omega
            have s5 : ¬ (9223372036854775807 < u.size + 1 + fx.size + 1 + x.size + 1) := by omega
            have s6 : ¬ (9223372036854775807 < u.size + 1 + fx.size + 1 + x.size + 1 + ft.size) := by omega
            clear hf hx hsl hsl2
            go_wp2_with fail
            refine wp_region_quiet_grown (by kernel_rfl) (by kernel_rfl) ?_
            repeat (go_big_quiet_step (first | (go_at_call 30; (with_reducible refine Calls.grown_of (D.out _ _)))))
            refine wpQuiet_nil ?_
            intro _ hw'
            obtain ⟨⟨nq2, osq2⟩, hw''⟩ := hw'
            subst hw''
            rw [HE.out]
            have HG2 := Lib.hid (HGJ.out.trans ⟨nq2, osq2, rfl⟩)
            clear i0 i1 hc1 hc2 D s1 s2 s3 s4 s5 s6
            generalize grow (wr.drewN nq2) osq2 = w3 at *
            go_wp2
            go_roundw
            case rel => exact ⟨j + 1, by omega, by go_num, by rw [HTK.out, ← List.append_assoc, ← HP.out], HG2.out⟩
            case measure => simp [intOf]; omega
          · obtain rfl : j = n1 + n2 := by omega
            have hnz : decide (((n1 + n2 : Nat) : Int) < ((n1 + n2 : Nat) : Int)) = false := decide_eq_false (by omega)
            have hnz2 : decide ((n1 : Int) + (n2 : Int) < (n1 : Int) + (n2 : Int)) = false := decide_eq_false (by omega)
            have HFIN : Hid (u = ba (recL (l0, l1, l2))) := Lib.hid (by
              rw [HU.out, HP.out, HQ2.out, List.take_of_length_le (by rw [LN6.out]; exact Nat.le_refl _), HH.out]
              simp [recL, LN0.out, LN1.out, LN2.out])
            clear hsl hsl2
            go_wp2
            go_ret
            exact ⟨by rw [HFIN.out]; rfl, HB7.out.trans (HGJ.out.below.mono HB7.out.size)⟩)
end Go.Proofs.YtpghfefiifhbiaaGreatDoor
