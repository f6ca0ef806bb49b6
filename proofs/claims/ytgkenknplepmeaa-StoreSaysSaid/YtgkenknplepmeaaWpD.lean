/-
  WALK: store.writeRows, over rows that may be.
-/
import Derived.Test.YtgkenknplepmeaaTzC
import Derived.Test.YtgkenknplepmeaaDkF
import Derived.RangeFuncNested
import Derived.Test.YtgkenknplepmeaaWpB
import Derived.Test.YtgkenknplepmeaaTzD
import Derived.Test.YtgkenknplepmeaaLgJ
import Derived.Test.YtgkenknplepmeaaLgR
import Derived.Test.YtgkenknplepmeaaSrA
namespace Go.Proofs.Ytgkenknplepmeaa
open Go.RowKit

def SiRelz (keep : Nat) (w0 : World) (base p B : Nat) (V : Nat → Value) (D : Dk) (k m : Nat) (i : Value) (wr : World) : Prop :=
  ∃ j : Nat, j ≤ m ∧ i = .int .i64 j ∧ DkAt wr base p B V (inD keep D k j) ∧ Below base w0 wr ∧ Tz w0 wr
def SoRelz (keep : Nat) (w0 : World) (base p B : Nat) (V : Nat → Value) (D : Dk) (i : Value) (wr : World) : Prop :=
  ∃ k : Nat, k ≤ D.n ∧ i = .int .i64 k ∧ DkAt wr base p B (outV V k) (outD keep D k) ∧ Below base w0 wr ∧ Tz w0 wr

set_option maxRecDepth 100000 in
set_option maxHeartbeats 2000000 in
theorem settlez_any (base p B : Nat) (V : Nat → Value) (D : Dk) (keep : Nat) (w : World) (h : DkAt w base p B V D) (hkp : keep < 2 ^ 64) (hsm : ∀ i, i < D.n → (D.sec i).ws.length ≤ 100000) :
    Calls Try.prog 64 #[ptr p, .int .u64 keep] w fun e w' => e = .returned (.tuple #[]) ∧ (∃ V', DkAt w' base p B V' (settleR keep D)) ∧ Below base w w' ∧ Tz w w' := by
  have c0 : w.cell? ⟨p, 0, none⟩ = some (.slice (some ⟨B, 0, none⟩) D.n D.n) := h.dk.cell 0
  have hn2 := h.n2
  have HD := Lib.hid h
  have HSM := Lib.hid hsm
  clear h hsm
  go_enter Try.func64, Try.ntmps64
  go_wp2
  go_loopw [13] (fun i wr => SoRelz keep w base p B V D i wr) (fun i _ => D.n - (intOf i).toNat)
  case atStart => exact ⟨0, Nat.zero_le _, rfl, by
    have := HD.out
    rwa [show outD keep D 0 = D by cases D; simp [outD], show outV V 0 = V by funext i; simp [outV]], Below.refl _ _, Tz.refl _⟩
  case round =>
    obtain ⟨k, hk, rfl, hd, hb, hy⟩ := hrel
    have HY := Lib.hid hy
    clear hy
    by_cases hlt : k < D.n
    · have hlti : (k : Int) < (D.n : Int) := by omega
      obtain ⟨A, c, hV⟩ := own_shape (hd.own k hlt)
      have hVk : outV V k k = V k := by simp [outV]
      have hSk : (outD keep D k).sec k = D.sec k := by simp [outD]
      rw [hSk] at hV
      have c1 : wr.cell? ⟨p, 0, none⟩ = some (.slice (some ⟨B, 0, none⟩) D.n D.n) := hd.dk.cell 0
      obtain ⟨m, hm⟩ : ∃ m, (D.sec k).ws.length = m := ⟨_, rfl⟩
      have c2 : wr.cell? ⟨B, k * 341 + 340, none⟩ = some (.slice A m c) := by
        have := hd.row k hlt 340 _ (seC_340 _ _ (hd.szd k hlt)); rw [this, hV, hm]
      have HD1 := Lib.hid hd
      have HB1 := Lib.hid hb
      have HV := Lib.hid hV
      have HM := Lib.hid hm
      have hm5 : m ≤ 100000 := by have := HSM.out k hlt; omega
      clear hd hb hV hm
      go_wp2
      go_loopw [27] (fun i w2 => SiRelz keep w base p B (outV V k) (outD keep D k) k m i w2) (fun i _ => m - (intOf i).toNat)
      case atStart => exact ⟨0, Nat.zero_le _, rfl, by rw [inD_zero]; exact HD1.out, HB1.out, HY.out⟩
      case round =>
        clear c1 c2 HD1 HB1
        rename World => w2
        clear HY
        obtain ⟨j, hj, rfl, hd2, hb2, hy2⟩ := hrel
        have HY2 := Lib.hid hy2
        clear hy2
        have hSk2 : (outD keep D k).sec k = D.sec k := hSk
        by_cases hlm : j < m
        · have hown := hd2.own k hlt
          rw [inD_sec, hSk2] at hown
          dsimp only at hown
          rw [HV.out, HM.out] at hown
          have hszw := hd2.szw k hlt
          rw [inD_sec, hSk2] at hszw
          obtain ⟨x, hx⟩ : ∃ x, (D.sec k).ws[j]? = some x := ⟨_, List.getElem?_eq_getElem (by have := HM.out; omega)⟩
          have hxm : x ∈ (D.sec k).ws := List.mem_of_getElem? hx
          have hx2 := hszw x hxm
          obtain ⟨g, rfl⟩ : ∃ g, A = some ⟨g, 0, none⟩ := by
            rcases hown.2 with ⟨e, h⟩ | ⟨g, cap, cur, e, _⟩
            · omega
            · injection e with e1; exact ⟨g, e1⟩
          have hrg : w2.rangeAt g (j * 341) (wrC x) := fun q v hv => by
            have h2 := hown.cells (g := g) rfl _ _ (wsC_at (fun y hy => (hszw y hy).1) hx q v hv)
            rwa [Go.WideShapes.add_plain, Nat.zero_add] at h2
          have hin : (Try.prog.info? tWt).map (·.size) = some (wrC x).length := by rw [wrC_len hx2.1]; exact wt_info
          have hlz : (wrC x).length = 341 := wrC_len hx2.1
          have hz : Try.zeroCells106.size = 341 := by kernel_rfl
          have hth : (w2.alloc (.cells Try.zeroCells106 tWt)).there w2.heap.size 0 341 := fun q hq => by
            refine ⟨?_, (Blk.new w2 tWt _).free _⟩
            rw [(Blk.new w2 tWt _).cell, Array.getElem?_eq_getElem (by omega)]
            rfl
          have hst : (storeCells ⟨w2.heap.size, 0, none⟩ (wrC x)).run Try.prog (w2.alloc (.cells Try.zeroCells106 tWt)) = .ok () ((w2.alloc (.cells Try.zeroCells106 tWt)).setCells w2.heap.size 0 (wrC x)) :=
            run_storeCells_cells (P := Try.prog) w2.heap.size 0 (wrC x) 0 _ (fun q hq => by rw [hlz] at hq; have := (hth q hq).1; rw [Nat.zero_add] at this; rw [show 0 + 0 + q = q by omega]; exact this) (fun q hq => by rw [hlz] at hq; have := (hth q hq).2; rw [Nat.zero_add] at this; rw [show 0 + 0 + q = q by omega]; exact this) (wrC_one _)
          have hr1 := World.rangeAt_setCells_same (w2.alloc (.cells Try.zeroCells106 tWt)) w2.heap.size 0 (wrC x) (by rw [hlz]; exact hth)
          have cn : ((w2.alloc (.cells Try.zeroCells106 tWt)).setCells w2.heap.size 0 (wrC x)).cell? ⟨w2.heap.size, 0, none⟩ = some (.int .i64 x.1) := by have := hr1 0 _ rfl; rwa [Nat.zero_add] at this
          have HR := Lib.hid hrg
          have HI := Lib.hid hin
          have HD2 := Lib.hid hd2
          have HB2 := Lib.hid hb2
          have hjm : (j : Int) < (m : Int) := by omega
          clear hrg hin hd2 hb2 hown hszw hth hz
          go_wp2_with fail
          refine wp_load_mid tWt (.tmp 29) rfl g (j * 341) rfl _ _ HR.out Try.underlying106 rfl HI.out ?_
          have hb1 : Below w2.heap.size w2 ((w2.alloc (.cells Try.zeroCells106 tWt)).setCells w2.heap.size 0 (wrC x)) := below_cells (Nat.le_refl _) _ _ _ ((Below.refl _ _).alloc (Nat.le_refl _) _)
          have hbw2 : base ≤ w2.heap.size := Nat.le_trans HD2.out.hB (Nat.le_of_lt HD2.out.ltB)
          have h4 : DkAt ((w2.alloc (.cells Try.zeroCells106 tWt)).setCells w2.heap.size 0 (wrC x)) base p B (outV V k) (inD keep (outD keep D k) k j) := HD2.out.keep (fun g _ hg => hb1.block g hg)
          have HB4 := Lib.hid (HB2.out.trans (hb1.mono hbw2))
          have HY4 := Lib.hid (HY2.out.trans (Tz.of_below hb1))
          have hbt := bit_test keep x.1 hkp
          have hxk : ((outD keep D k).sec k).ws[j]? = some x := by rw [hSk2]; exact hx
          cases htb : keep.testBit x.1 with
          | false =>
            rw [htb] at hbt
            rw [inD_miss hxk htb] at h4
            have H4 := Lib.hid h4
            clear h4 hb1 hx hxk htb
            go_wp2
            go_roundw
            case rel => exact ⟨j + 1, by omega, by go_num, H4.out, HB4.out, HY4.out⟩
            case measure => simp [intOf]; omega
          | true =>
            rw [htb] at hbt
            have h5 := h4.setDur hlt x.2 hx2.1
            rw [inD_hit hxk htb] at h5
            have hr5 : ((w2.alloc (.cells Try.zeroCells106 tWt)).setCells w2.heap.size 0 (wrC x)).rangeAt w2.heap.size 1 (Lib.strCells x.2) := fun q v hv => by
              have := hr1 (q + 1) v (by unfold wrC; rw [List.getElem?_cons_succ]; exact hv)
              rwa [Nat.zero_add, Nat.add_comm] at this
            have hlx : (Lib.strCells x.2).length = 340 := by rw [Lib.strCells_length]; exact hx2.1
            have hst2 : (storeCells ⟨B, k * 341, none⟩ (Lib.strCells x.2)).run Try.prog ((w2.alloc (.cells Try.zeroCells106 tWt)).setCells w2.heap.size 0 (wrC x)) = .ok () (((w2.alloc (.cells Try.zeroCells106 tWt)).setCells w2.heap.size 0 (wrC x)).setCells B (k * 341) (Lib.strCells x.2)) :=
              run_storeCells_cells (P := Try.prog) B (k * 341) (Lib.strCells x.2) 0 _ (fun q hq => (h4.there hlt q (by omega)).1) (fun q hq => (h4.there hlt q (by omega)).2) (strCells_one _)
            have HR5 := Lib.hid hr5
            have HI5 := Lib.hid (show (Try.prog.info? tBk).map (·.size) = some (Lib.strCells x.2).length by rw [hlx]; exact bk_info)
            have H5 := Lib.hid h5
            have HY5 := Lib.hid (show Tz w (((w2.alloc (.cells Try.zeroCells106 tWt)).setCells w2.heap.size 0 (wrC x)).setCells B (k * 341) (Lib.strCells x.2)) from by
              obtain ⟨cs, hbk, _⟩ := h4.se
              exact HY4.out.trans (Tz.setCellsB hbk _ _))
            have HB5 := Lib.hid (below_cells h4.hB (Lib.strCells x.2) (k * 341) _ HB4.out)
            clear h4 hb1 hx hxk htb h5 hr5 hr1
            go_wp2_with fail
            refine wp_load_mid tBk (.tmp 38) rfl w2.heap.size 1 rfl _ _ HR5.out Try.underlying104 rfl HI5.out ?_
            go_wp2
            go_roundw
            case rel => exact ⟨j + 1, by omega, by go_num, H5.out, HB5.out, HY5.out⟩
            case measure => simp [intOf]; omega
        · obtain rfl : j = m := by omega
          have hjm : decide ((j : Int) < (j : Int)) = false := decide_eq_false (by omega)
          obtain ⟨cs, hbk, hcz⟩ := hd2.se
          have c3 : w2.cell? ⟨B, k * 341 + 340, none⟩ = some (.slice A j c) := by
            have := hd2.row k hlt 340 _ (seC_340 _ _ (hd2.szd k hlt)); rw [this, HV.out, HM.out]
          have f3 := hbk.free (k * 341 + 340)
          have h3 := hd2.swap hlt (.slice none 0 0) [] (fun g _ _ _ => rfl) (World.ownsRow_nil _ _ _ _) (.inr (fun g hg => by cases hg)) (fun x hx => by cases hx)
          rw [out_next keep D k j HM.out, outV_next] at h3
          have HY3 := Lib.hid (HY2.out.trans (Tz.setB (i := k * 341 + 340) hbk (.slice none 0 0)))
          have H3 := Lib.hid h3
          have HB3 := Lib.hid (hb2.setCell (p := ⟨B, k * 341 + 340, none⟩) (by simpa using hd2.hB) (.slice none 0 0))
          clear hd2 hb2 hbk hcz h3
          go_wp2
          go_roundw
          case rel => exact ⟨k + 1, by omega, by go_num, H3.out, HB3.out, HY3.out⟩
          case measure => simp [intOf]; omega
    · obtain rfl : k = D.n := by omega
      have hlti : decide ((D.n : Int) < (D.n : Int)) = false := decide_eq_false (by omega)
      have c3 : wr.cell? ⟨p, 3, none⟩ = some (.int .i64 D.next) := hd.dk.cell 3
      have f3 := hd.dk.free 3
      have h3 := hd.upd D.left D.down 0 (by omega) (by have := hd.dk.set 3 (.int .i64 0); exact this) (upd_setp (i := 3) (.int .i64 0))
      have h4 := h3.congr (settleR keep D).sec (fun i hi => by
        show _ = (outD keep D D.n).sec i
        have hi' : i < D.n := hi
        simp [outD, settleR, hi'])
      have HY4 := Lib.hid (HY.out.trans (Tz.setP (i := 3) hd.dk (.int .i64 0)))
      have H4 := Lib.hid h4
      have HB := Lib.hid (hb.setCell (p := ⟨p, 3, none⟩) (by simpa using hd.hp) (.int .i64 0))
      clear hd hb h3 h4
      go_wp2
      go_end0
      exact ⟨rfl, ⟨_, H4.out⟩, HB.out, HY4.out⟩
set_option maxRecDepth 100000 in
set_option maxHeartbeats 1000000 in
theorem flushz_any (base p B : Nat) (V : Nat → Value) (D : Dk) (w : World) (h : DkAt w base p B V D) (hl : -9223372036854775808 ≤ D.left ∧ D.left ≤ 9223372036854775807) (hsm : ∀ i, i < D.n → (D.sec i).ws.length ≤ 100000) :
    Calls Try.prog 22 #[ptr p] w fun e w' => e = .returned (erV (flushR D).2) ∧ (∃ V', DkAt w' base p B V' (flushR D).1) ∧ Below base w w' ∧ Tz w w' := by
  have HST := Lib.hid (step_any base p B V D w h hl)
  have hbp := h.hp
  have HDK := Lib.hid h.dk
  have hbw : base ≤ w.heap.size := Nat.le_trans h.hp (Nat.le_of_lt h.ltp)
  by_cases h0 : (stepR D).2 = 0
  · have hst1 : stepR D = ({ D with left := if 0 < D.left then D.left - 1 else D.left }, 0) := by
      unfold stepR at h0 ⊢
      split at h0
      · cases h0
      · rename_i hx; rw [if_neg hx]
    have HF := Lib.hid (show flushR D = (settleR allK (stepR D).1, 0) by unfold flushR; rw [if_neg (by simp [h0])])
    have hsm1 : ∀ i, i < (stepR D).1.n → ((stepR D).1.sec i).ws.length ≤ 100000 := by rw [hst1]; exact hsm
    rw [h0] at HST
    have HSM := Lib.hid hsm1
    clear h hst1 h0 hsm hsm1 hl
    generalize (stepR D).1 = D1 at *
    have HSET := Lib.hid (show ∀ w1, DkAt w1 base p B V D1 → Calls Try.prog 64 #[ptr p, .int .u64 18446744073709551615] w1 fun e w' => e = .returned (.tuple #[]) ∧ (∃ V', DkAt w' base p B V' (settleR allK D1)) ∧ Below base w1 w' ∧ Tz w1 w' from fun w1 h => by have := settlez_any base p B V D1 allK w1 h allK_lt HSM.out; rwa [allK_int] at this)
    go_enter Try.func22, Try.ntmps22
    go_wp2_with (first | (go_at_call 61; refine HST.out.mono ?_; rintro e w1 ⟨rfl, hd1, hu1⟩; have HD1 := Lib.hid hd1; have HY1 := Lib.hid (Tz.of_upd HDK.out hu1); have HU1 := Lib.hid (hu1.below hbw (fun g e => by rw [e]; exact hbp)); clear hd1 hu1; rw [show erV 0 = .nilIface from rfl]) | (go_at_call 64; refine (HSET.out w1 HD1.out).mono ?_; rintro e w2 ⟨rfl, hd2, hb2, hy2⟩; have HD2 := Lib.hid hd2; have HB2 := Lib.hid (HU1.out.trans hb2); have HY2 := Lib.hid (HY1.out.trans hy2); clear hd2 hb2 hy2))
    go_ret
    exact ⟨by rw [HF.out]; rfl, by rw [HF.out]; exact HD2.out, HB2.out, HY2.out⟩
  · have HF := Lib.hid (show flushR D = stepR D by unfold flushR; rw [if_pos h0])
    have herr : erV (stepR D).2 = .iface 96 (.int .i64 (stepR D).2) := by unfold erV; rw [if_neg h0]
    rw [herr] at HST
    clear h h0 hsm hl
    go_enter Try.func22, Try.ntmps22
    go_wp2_with (go_at_call 61; refine HST.out.mono ?_; rintro e w1 ⟨rfl, hd1, hu1⟩; have HD1 := Lib.hid hd1; have HY1 := Lib.hid (Tz.of_upd HDK.out hu1); have HU1 := Lib.hid (hu1.below hbw (fun g e => by rw [e]; exact hbp)); clear hd1 hu1)
    go_ret
    exact ⟨by rw [HF.out, herr]; rfl, by rw [HF.out]; exact ⟨V, HD1.out⟩, HU1.out, HY1.out⟩

end Go.Proofs.Ytgkenknplepmeaa
namespace Go.Proofs.Ytgkenknplepmeaa
open Go.RowKit Go.Sort

def wrN (D : Dk) (n : Nat) : List ByteArray → Dk × Int
  | [] => (D, 0)
  | s :: r => if (writeR D n s).2 ≠ 0 then writeR D n s else wrN (writeR D n s).1 (n + 1) r
theorem wrN_nil (D : Dk) (n : Nat) : wrN D n [] = (D, 0) := rfl
theorem wrN_cons (D : Dk) (n : Nat) (s : ByteArray) (r : List ByteArray) : wrN D n (s :: r) = if (writeR D n s).2 ≠ 0 then writeR D n s else wrN (writeR D n s).1 (n + 1) r := rfl
theorem wrL_nil (D : Dk) (n : Nat) : wrL D n [] = flushR D := rfl
theorem wrL_cons (D : Dk) (n : Nat) (s : ByteArray) (r : List ByteArray) : wrL D n (s :: r) = if (writeR D n s).2 ≠ 0 then writeR D n s else wrL (writeR D n s).1 (n + 1) r := rfl
theorem wrL_N : ∀ (ss : List ByteArray) (D : Dk) (n : Nat), wrL D n ss = if (wrN D n ss).2 ≠ 0 then wrN D n ss else flushR (wrN D n ss).1
  | [], D, n => by rw [wrL_nil, wrN_nil, if_neg (by simp)]
  | s :: r, D, n => by
    rw [wrL_cons, wrN_cons]
    by_cases h : (writeR D n s).2 ≠ 0
    · rw [if_pos h, if_pos h, if_pos h]
    · rw [if_neg h, if_neg h]
      exact wrL_N r _ _
theorem wrN_app : ∀ (a b : List ByteArray) (D : Dk) (n : Nat), wrN D n (a ++ b) = if (wrN D n a).2 ≠ 0 then wrN D n a else wrN (wrN D n a).1 (n + a.length) b
  | [], b, D, n => by rw [wrN_nil, if_neg (by simp)]; rfl
  | s :: r, b, D, n => by
    rw [List.cons_append, wrN_cons, wrN_cons]
    by_cases h : (writeR D n s).2 ≠ 0
    · rw [if_pos h, if_pos h, if_pos h]
    · rw [if_neg h, if_neg h, wrN_app r b, List.length_cons, show n + 1 + r.length = n + (r.length + 1) by omega]
theorem wrN_snoc {a : List ByteArray} {x : ByteArray} {D : Dk} {n : Nat} (h : (wrN D n a).2 = 0) : wrN D n (a ++ [x]) = writeR (wrN D n a).1 ((n + a.length : Nat) : Int) x := by
  rw [wrN_app, if_neg (by rw [h]; simp), wrN_cons, wrN_nil]
  by_cases e : (writeR (wrN D n a).1 ((n + a.length : Nat) : Int) x).2 ≠ 0
  · rw [if_pos e]
  · rw [if_neg e]
    have : (writeR (wrN D n a).1 ((n + a.length : Nat) : Int) x).2 = 0 := by omega
    exact Prod.ext rfl this.symm
theorem wrN_stop {a b : List ByteArray} {D : Dk} {n : Nat} (h : (wrN D n a).2 ≠ 0) : wrN D n (a ++ b) = wrN D n a := by rw [wrN_app, if_pos h]
theorem wrN_n : ∀ (ss : List ByteArray) (D : Dk) (n : Nat), (wrN D n ss).1.n = D.n
  | [], _, _ => rfl
  | s :: r, D, n => by
    rw [wrN_cons]
    split
    · exact writeR_n _ _ _
    · rw [wrN_n r, writeR_n]
theorem wrN_wok : ∀ (ss : List ByteArray) (D : Dk) (n m : Nat), WOk D (ss.length + m) → (∀ s ∈ ss, s.size ≤ 340) → n + ss.length ≤ D.n → (wrN D n ss).2 = 0 → WOk (wrN D n ss).1 m
  | [], D, n, m, h, _, _, _ => by
    have := h
    rw [List.length_nil, Nat.zero_add] at this
    exact this
  | s :: r, D, n, m, h, hs, hn, he => by
    rw [wrN_cons] at he ⊢
    rw [List.length_cons] at hn h
    by_cases e : (writeR D n s).2 ≠ 0
    · rw [if_pos e] at he; exact absurd he e
    · rw [if_neg e] at he ⊢
      have h1 : WOk D (r.length + m + 1) := by rw [show r.length + m + 1 = r.length + 1 + m by omega]; exact h
      exact wrN_wok r _ (n + 1) m (h1.write (hs s (by simp)) (by omega) (by omega)) (fun x hx => hs x (by simp [hx])) (by rw [writeR_n]; omega) he
theorem writeX_eq {D : Dk} {m k : Nat} {s : ByteArray} (h : WOk D (m + 1)) : writeX D k s = writeR D k s := by
  unfold writeX writeR
  split
  · rfl
  · rename_i hh
    have hk : k < D.n := by
      cases e : hasR D k with
      | false => exact absurd (.inl e) hh
      | true =>
        unfold hasR at e
        rw [Bool.and_eq_true, decide_eq_true_eq, decide_eq_true_eq] at e
        omega
    rw [show ((k : Int)).toNat = k from rfl, strikeW_none (fun x hx => by have := h.bit k hk x hx; omega)]
/-- The disk stands where what is cells stands. -/
theorem DkAt.nc {w w' : World} {base p B : Nat} {V : Nat → Value} {D : Dk} (h : DkAt w base p B V D) (hk : ∀ g t cs, Blk w g t cs → Blk w' g t cs) : DkAt w' base p B V D := by
  obtain ⟨cs, hb, hz⟩ := h.se
  have hb' := hk _ _ _ hb
  refine ⟨h.hp, h.hB, hk _ _ _ h.dk, ⟨cs, hb', hz⟩, fun i hi => rangeAt_block (h.row i hi) (show w'.heap[B]? = w.heap[B]? from hb'.trans hb.symm), fun i hi => ?_, h.sep, h.szd, h.szw, h.n1, h.n2, h.nx⟩
  have ho := h.own i hi
  refine ⟨ho.1, ?_⟩
  rcases ho.2 with h2 | ⟨g, cap, cur, e, h3, h4, h5⟩
  · exact .inl h2
  · exact .inr ⟨g, cap, cur, e, h3, hk _ _ _ h4, h5⟩
theorem blk_own {X Y : World} {row : Option Nat} (hg : X.grownBy Y row) (hr : ∀ r, row = some r → ∃ o : Obj, X.heap[r]? = some o ∧ o.isCells = false) : ∀ g t cs, Blk X g t cs → Blk Y g t cs := fun g t cs hb =>
  hb.grown hg (fun e => by
    obtain ⟨o, ho, hc⟩ := hr g e
    have hb' : X.heap[g]? = some (.cells cs t (0, 0)) := hb
    rw [hb'] at ho
    injection ho with ho
    rw [← ho] at hc
    cases hc)
/-- A block that was not there is written. -/
theorem Ty.setNew {w W : World} (h : Ty w W) {b i : Nat} (hb : w.heap.size ≤ b) (v : Value) : Ty w (W.setCell ⟨b, i, none⟩ v) := fun g t cs hg h1 h2 h3 => (h g t cs hg h1 h2 h3).other (fun e => by have := hg.lt; omega) v
theorem Fr.setNew {b0 : Nat} {w W : World} (h : Fr b0 w W) {b i : Nat} {t : TypeId} {cs : Array Value} (hb : Blk W b t cs) (h1 : t ≠ tCh) (h2 : t ≠ tSl) (h0 : b0 ≤ b) (v : Value) : Fr b0 w (W.setCell ⟨b, i, none⟩ v) :=
  h.trans ⟨by simp [World.setCell], fun k hk => Below.heap_setCell _ _ _ _ (by show k ≠ b; omega), fun k _ hk => hk.other (fun e => by subst e; exact hk.ne hb h1.symm rfl) v, fun k _ hk => hk.other (fun e => by subst e; exact hk.ne hb h2.symm rfl) v⟩
end Go.Proofs.Ytgkenknplepmeaa
namespace Go.Proofs.Ytgkenknplepmeaa
open Go.RowKit Go.Shelf Go.Sort
attribute [local go_sem] Oper.semAt_some

abbrev Pc := { x : ByteArray // x.size ≤ 340 }
def pvals (l : List Pc) : List ByteArray := l.map Subtype.val
theorem pvals_snoc (l : List Pc) (x : Pc) : pvals (l ++ [x]) = pvals l ++ [x.1] := by simp [pvals]
theorem pvals_len (l : List Pc) : (pvals l).length = l.length := by simp [pvals]
theorem pvals_small (l : List Pc) : ∀ s ∈ pvals l, s.size ≤ 340 := fun s hs => by
  obtain ⟨x, _, rfl⟩ := List.mem_map.1 hs; exact x.2
set_option maxHeartbeats 1000000 in
theorem pieces_in (n : Nat) (a : Option Addr) (len cap : Nat) (w : World) :
    CallsIn Fence.wide n Try.prog 105 #[.slice a len cap] w fun e w' => e = .returned (.func (.func 115) #[] #[.pointer (some ⟨w.heap.size, 0, none⟩)]) ∧ w' = w.alloc (.cells #[.slice a len cap] tSl) := by
  refine callsIn_of_wp Try.func105 rfl trivial ?_ rfl
  simp only [Try.ntmps105, List.size_toArray, List.length_cons, List.length_nil, Nat.reduceAdd, Nat.reduceSub, Array.replicate_succ, Array.replicate_zero, List.push_toArray, List.append_toArray, List.nil_append, List.cons_append]
  gi_wp2
  go_ret
  exact ⟨rfl, rfl⟩
theorem pieces_stops (n : Nat) (hn : 3 ≤ n) (Bs b0 : Nat) (A : Option Addr) (len cap : Nat) (rows : List Ch) (hS : (rowsR rows).size ≤ 7140) (hlen : len ≤ 1000) (hck : ∀ c ∈ rows, ckR c = 0) (w : World) (hst : PcSt b0 Bs A len cap rows w) :
    SeqStopsK Fence.wide n Try.prog 115 #[.pointer (some ⟨Bs, 0, none⟩)] (fun x : Pc => #[.string x.1]) (Fr b0) (fun ys => pvals ys = chunksR (rowsR rows)) (fun pre => ∃ k, pvals pre = (chunksR (rowsR rows)).take k) 22 w := fun l J Jx W hW hJ _ hY h0 => by
  have h := pieces1_in n hn l Bs b0 A len cap rows hS hlen hck W.heap.size (fun l W => ∃ l' : List Pc, pvals l' = l ∧ J l' W) (fun l W => ∃ l' : List Pc, pvals l' = l ∧ Jx l' W) (fun s A B row hs hg hr => by obtain ⟨l', e, hj⟩ := hs; exact ⟨l', e, hJ l' A B row hj hg hr⟩)
    (fun pre x W hx hj hlt => by
      obtain ⟨l', rfl, hj⟩ := hj
      obtain ⟨fn, tmps, assign, body, hy, hR⟩ := hY l' ⟨x, hx⟩ W hj (by rw [pvals_len] at hlt; exact hlt)
      refine ⟨fn, tmps, assign, body, hy, hR.mono ?_⟩
      rintro e W' (⟨he, h1, h2⟩ | ⟨he, h1⟩)
      · exact .inl ⟨he, ⟨_, pvals_snoc _ _, h1⟩, h2⟩
      · exact .inr ⟨he, _, pvals_snoc _ _, h1⟩) W (hst.below hW) ⟨[], rfl, h0⟩
  refine h.mono ?_
  rintro e W' ⟨hv, h2⟩
  refine ⟨hv, ?_⟩
  rcases h2 with ⟨ys, e1, l', e2, hj⟩ | ⟨pre, ⟨k, e1⟩, l', e2, hj⟩
  · exact .inl ⟨l', e2.trans e1, hj⟩
  · exact .inr ⟨l', ⟨k, e2.trans e1⟩, hj⟩
end Go.Proofs.Ytgkenknplepmeaa
