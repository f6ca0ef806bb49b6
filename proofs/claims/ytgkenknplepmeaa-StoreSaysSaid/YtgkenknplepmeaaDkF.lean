/-
  WALKS: package disk: Flush, Restart, Arm.
-/
import Derived.Test.YtgkenknplepmeaaDkC
import Derived.Laws.BitsAllLaws
namespace Go.Proofs.Ytgkenknplepmeaa
open Go.RowKit

theorem Blk.setCells {b : Nat} {t : TypeId} : ∀ (vs : List Value) (o : Nat) (w : World) (cs : Array Value), Blk w b t cs → ∃ cs', Blk (w.setCells b o vs) b t cs' ∧ cs'.size = cs.size
  | [], _, _, cs, h => ⟨cs, h, rfl⟩
  | v :: r, o, w, cs, h => by
    obtain ⟨cs', h1, h2⟩ := Blk.setCells r (o + 1) (w.setCell ⟨b, o, none⟩ v) _ (h.set o v)
    exact ⟨cs', h1, by rw [h2]; simp⟩
theorem heap_setCells_ne {b g : Nat} (hg : g ≠ b) : ∀ (vs : List Value) (o : Nat) (w : World), (w.setCells b o vs).heap[g]? = w.heap[g]?
  | [], _, _ => rfl
  | v :: r, o, w => (heap_setCells_ne hg r (o + 1) _).trans (Below.heap_setCell _ _ _ _ hg)
theorem bit_test (keep b : Nat) (h : keep < 2 ^ 64) : (bits .and .u64 ((keep : Int) / 2 ^ b) 1 == 1) = keep.testBit b := by
  have e1 : ((keep : Int) / 2 ^ b) = ((keep / 2 ^ b : Nat) : Int) := by rw [Int.natCast_ediv, Int.natCast_pow]; rfl
  have hlt : keep / 2 ^ b < 18446744073709551616 := Nat.lt_of_le_of_lt (Nat.div_le_self _ _) (by omega)
  rw [e1, show (1 : Int) = ((1 : Nat) : Int) from rfl, u64_and_nat _ _ hlt (by omega), Nat.and_one_is_mod, Nat.testBit_eq_decide_div_mod_eq]
  rw [Bool.eq_iff_iff]
  simp
  omega
theorem Ty.setCellsB {w : World} {B : Nat} {cs : Array Value} (hB : Blk w B tSe cs) (o : Nat) (vs : List Value) : Ty w (w.setCells B o vs) := fun g _ _ hb _ h2 _ => (heap_setCells_ne (fun e => by subst e; exact hb.ne hB h2 rfl) vs o w).trans hb
/-- The durable bytes of one sector turn. -/
theorem DkAt.setDur {w : World} {base p B k : Nat} {V : Nat → Value} {D : Dk} (h : DkAt w base p B V D) (hk : k < D.n) (d : ByteArray) (hd : d.size = 340) :
    DkAt (w.setCells B (k * 341) (Lib.strCells d)) base p B V { D with sec := updS D.sec k ⟨d, (D.sec k).ws⟩ } := by
  obtain ⟨cs, hcs, hz⟩ := h.se
  obtain ⟨cs', hcs', hz'⟩ := Blk.setCells (Lib.strCells d) (k * 341) w cs hcs
  have hne : ∀ g, g ≠ B → (w.setCells B (k * 341) (Lib.strCells d)).heap[g]? = w.heap[g]? := fun g hg => heap_setCells_ne hg _ _ _
  have hl : (Lib.strCells d).length = 340 := by rw [Lib.strCells_length, hd]
  refine ⟨h.hp, h.hB, (hne p h.pB).trans h.dk, ⟨cs', hcs', by rw [hz', hz]⟩, fun i hi => ?_, fun i hi => ?_, h.sep, fun i hi => ?_, fun i hi => ?_, h.n1, h.n2, h.nx⟩
  · intro j x hx
    by_cases e : i = k
    · subst e
      simp only [updS, if_true] at hx
      have hj : j < 341 := by have := (List.getElem?_eq_some_iff.1 hx).1; rwa [seC_len _ hd] at this
      by_cases e2 : j = 340
      · subst e2
        rw [seC_340 _ _ hd] at hx
        rw [World.cell?_setCells_out B _ _ w ⟨B, i * 341 + 340, none⟩ (fun _ _ => .inr (by rw [hl]; exact Nat.le_refl _)), ← hx]
        exact h.row i hk 340 _ (seC_340 _ _ (h.szd i hk))
      · rw [seC_at _ _ hd j (by omega)] at hx
        have hsm : ∀ q, q < (Lib.strCells d).length → (w.cell? ⟨B, i * 341 + q, none⟩).isSome = true := fun q hq => (h.there hk q (by omega)).1
        rw [World.cell?_setCells_in B (Lib.strCells d) (i * 341) w hsm j (by omega), ← hx, List.getElem?_eq_getElem]
    · simp only [updS, if_neg e] at hx
      have hj : j < 341 := by have := (List.getElem?_eq_some_iff.1 hx).1; rwa [seC_len _ (h.szd i hi)] at this
      rw [World.cell?_setCells_out B _ _ w ⟨B, i * 341 + j, none⟩ (fun _ _ => by
        rw [hl]
        show i * 341 + j < k * 341 ∨ k * 341 + 340 ≤ i * 341 + j
        omega)]
      exact h.row i hi j x hx
  · have e : (updS D.sec k ⟨d, (D.sec k).ws⟩ i).ws = (D.sec i).ws := by unfold updS; split; rename_i e; rw [e]; rfl
    rw [e]
    exact ownsRow_block (h.own i hi) (fun g hg => hne g (fun e => h.VB hi (by rw [hg, e])))
  · by_cases e : i = k
    · subst e; simp only [updS, if_true]; exact hd
    · simp only [updS, if_neg e]; exact h.szd i hi
  · have e : (updS D.sec k ⟨d, (D.sec k).ws⟩ i).ws = (D.sec i).ws := by unfold updS; split; rename_i e; rw [e]; rfl
    rw [e]
    exact h.szw i hi
theorem updS_updS (f : Nat → Sec) (k : Nat) (a b : Sec) : updS (updS f k a) k b = updS f k b := by
  funext j; unfold updS; split <;> rfl
theorem updS_at (f : Nat → Sec) (k : Nat) (a : Sec) : updS f k a k = a := by simp [updS]
/-- The disk while sector k is being settled: j writes are through. -/
def inD (keep : Nat) (D : Dk) (k j : Nat) : Dk := { D with sec := updS D.sec k ⟨keepB keep (D.sec k).dur ((D.sec k).ws.take j), (D.sec k).ws⟩ }
theorem keepB_size {keep : Nat} : ∀ (l : SW) (d : ByteArray), d.size = 340 → (∀ x ∈ l, x.2.size = 340) → (keepB keep d l).size = 340
  | [], d, hd, _ => hd
  | x :: r, d, hd, h => by
    show (keepB keep (if keep.testBit x.1 then x.2 else d) r).size = 340
    refine keepB_size r _ ?_ (fun y hy => h y (by simp [hy]))
    split
    · exact h x (by simp)
    · exact hd
theorem keepB_snoc (keep : Nat) (d : ByteArray) (l : SW) (x : Nat × ByteArray) : keepB keep d (l ++ [x]) = if keep.testBit x.1 then x.2 else keepB keep d l := by
  unfold keepB; rw [List.foldl_append]; rfl
theorem keepB_take {keep : Nat} {d : ByteArray} {l : SW} {j : Nat} {x : Nat × ByteArray} (h : l[j]? = some x) : keepB keep d (l.take (j + 1)) = if keep.testBit x.1 then x.2 else keepB keep d (l.take j) := by
  rw [List.take_add_one, h]; exact keepB_snoc _ _ _ _
def SiRel (keep : Nat) (w0 : World) (base p B : Nat) (V : Nat → Value) (D : Dk) (k m : Nat) (i : Value) (wr : World) : Prop :=
  ∃ j : Nat, j ≤ m ∧ i = .int .i64 j ∧ DkAt wr base p B V (inD keep D k j) ∧ Below base w0 wr ∧ Ty w0 wr
def outD (keep : Nat) (D : Dk) (k : Nat) : Dk := { D with sec := fun i => if i < k then ⟨keepB keep (D.sec i).dur (D.sec i).ws, []⟩ else D.sec i }
def outV (V : Nat → Value) (k : Nat) : Nat → Value := fun i => if i < k then .slice none 0 0 else V i
def SoRel (keep : Nat) (w0 : World) (base p B : Nat) (V : Nat → Value) (D : Dk) (i : Value) (wr : World) : Prop :=
  ∃ k : Nat, k ≤ D.n ∧ i = .int .i64 k ∧ DkAt wr base p B (outV V k) (outD keep D k) ∧ Below base w0 wr ∧ Ty w0 wr

theorem DkAt.congr {w : World} {base p B : Nat} {V : Nat → Value} {D : Dk} (h : DkAt w base p B V D) (f : Nat → Sec) (hf : ∀ i, i < D.n → f i = D.sec i) : DkAt w base p B V { D with sec := f } :=
  ⟨h.hp, h.hB, h.dk, h.se, fun i hi => by show w.rangeAt B (i * 341) (seC (f i).dur (V i)); rw [hf i hi]; exact h.row i hi, fun i hi => by show w.ownsRow base tWt 341 (V i) (f i).ws.length (wsC (f i).ws); rw [hf i hi]; exact h.own i hi, h.sep,
   fun i hi => by show (f i).dur.size = 340; rw [hf i hi]; exact h.szd i hi, fun i hi => by show ∀ x ∈ (f i).ws, _; rw [hf i hi]; exact h.szw i hi, h.n1, h.n2, h.nx⟩
theorem inD_zero (keep : Nat) (D : Dk) (k : Nat) : inD keep D k 0 = D := by
  unfold inD
  rw [List.take_zero, show keepB keep (D.sec k).dur [] = (D.sec k).dur from rfl, updS_same]
theorem inD_sec (keep : Nat) (D : Dk) (k j : Nat) : (inD keep D k j).sec k = ⟨keepB keep (D.sec k).dur ((D.sec k).ws.take j), (D.sec k).ws⟩ := updS_at _ _ _
theorem inD_hit {keep : Nat} {D : Dk} {k j : Nat} {x : Nat × ByteArray} (h : (D.sec k).ws[j]? = some x) (hb : keep.testBit x.1 = true) : ({ inD keep D k j with sec := updS (inD keep D k j).sec k ⟨x.2, ((inD keep D k j).sec k).ws⟩ } : Dk) = inD keep D k (j + 1) := by
  rw [inD_sec]
  unfold inD
  dsimp only
  rw [updS_updS, keepB_take h, if_pos hb]
theorem inD_miss {keep : Nat} {D : Dk} {k j : Nat} {x : Nat × ByteArray} (h : (D.sec k).ws[j]? = some x) (hb : keep.testBit x.1 = false) : inD keep D k j = inD keep D k (j + 1) := by
  unfold inD
  rw [keepB_take h, hb]
  rfl
theorem out_next (keep : Nat) (D : Dk) (k m : Nat) (hm : (D.sec k).ws.length = m) : ({ inD keep (outD keep D k) k m with sec := updS (inD keep (outD keep D k) k m).sec k ⟨((inD keep (outD keep D k) k m).sec k).dur, []⟩ } : Dk) = outD keep D (k + 1) := by
  have hS : (outD keep D k).sec k = D.sec k := by simp [outD]
  rw [inD_sec, hS, List.take_of_length_le (by omega)]
  unfold inD outD
  dsimp only
  congr 1
  funext i
  unfold updS
  by_cases e : i = k
  · subst e; simp
  · simp only [if_neg e]
    by_cases h1 : i < k
    · rw [if_pos h1, if_pos (by omega)]
    · rw [if_neg h1, if_neg (by omega)]
theorem outV_next (V : Nat → Value) (k : Nat) : updV (outV V k) k (.slice none 0 0) = outV V (k + 1) := by
  funext i
  unfold updV outV
  by_cases e : i = k
  · subst e; simp
  · simp only [if_neg e]
    by_cases h1 : i < k
    · rw [if_pos h1, if_pos (by omega)]
    · rw [if_neg h1, if_neg (by omega)]

set_option maxRecDepth 100000 in
set_option maxHeartbeats 2000000 in
theorem settle_any (base p B : Nat) (V : Nat → Value) (D : Dk) (keep : Nat) (w : World) (h : DkAt w base p B V D) (hkp : keep < 2 ^ 64) (hsm : ∀ i, i < D.n → (D.sec i).ws.length ≤ 100000) :
    Calls Try.prog 64 #[ptr p, .int .u64 keep] w fun e w' => e = .returned (.tuple #[]) ∧ (∃ V', DkAt w' base p B V' (settleR keep D)) ∧ Below base w w' ∧ Ty w w' := by
  have c0 : w.cell? ⟨p, 0, none⟩ = some (.slice (some ⟨B, 0, none⟩) D.n D.n) := h.dk.cell 0
  have hn2 := h.n2
  have HD := Lib.hid h
  have HSM := Lib.hid hsm
  clear h hsm
  go_enter Try.func64, Try.ntmps64
  go_wp2
  go_loopw [13] (fun i wr => SoRel keep w base p B V D i wr) (fun i _ => D.n - (intOf i).toNat)
  case atStart => exact ⟨0, Nat.zero_le _, rfl, by
    have := HD.out
    rwa [show outD keep D 0 = D by cases D; simp [outD], show outV V 0 = V by funext i; simp [outV]], Below.refl _ _, Ty.refl _⟩
  case round =>
    obtain ⟨k, hk, rfl, hd, hb, hy⟩ := hrel
    have HY := Lib.hid hy
    clear hy
    by_cases hlt : k < D.n
    · have hlti : (k : Int) < (D.n : Int) := by omega
      obtain ⟨A, c, hV⟩ := own_shape (hd.own k hlt)
      have hVk : outV V k k = V k := by simp [outV]
      have hSk : (outD keep D k).sec k = D.sec k := by simp [outD]
      rw [hSk] at hV
      have c1 : wr.cell? ⟨p, 0, none⟩ = some (.slice (some ⟨B, 0, none⟩) D.n D.n) := hd.dk.cell 0
      obtain ⟨m, hm⟩ : ∃ m, (D.sec k).ws.length = m := ⟨_, rfl⟩
      have c2 : wr.cell? ⟨B, k * 341 + 340, none⟩ = some (.slice A m c) := by
        have := hd.row k hlt 340 _ (seC_340 _ _ (hd.szd k hlt)); rw [this, hV, hm]
      have HD1 := Lib.hid hd
      have HB1 := Lib.hid hb
      have HV := Lib.hid hV
      have HM := Lib.hid hm
      have hm5 : m ≤ 100000 := by have := HSM.out k hlt; omega
      clear hd hb hV hm
      go_wp2
      go_loopw [27] (fun i w2 => SiRel keep w base p B (outV V k) (outD keep D k) k m i w2) (fun i _ => m - (intOf i).toNat)
      case atStart => exact ⟨0, Nat.zero_le _, rfl, by rw [inD_zero]; exact HD1.out, HB1.out, HY.out⟩
      case round =>
        clear c1 c2 HD1 HB1
        rename World => w2
        clear HY
        obtain ⟨j, hj, rfl, hd2, hb2, hy2⟩ := hrel
        have HY2 := Lib.hid hy2
        clear hy2
        have hSk2 : (outD keep D k).sec k = D.sec k := hSk
        by_cases hlm : j < m
        · have hown := hd2.own k hlt
          rw [inD_sec, hSk2] at hown
          dsimp only at hown
          rw [HV.out, HM.out] at hown
          have hszw := hd2.szw k hlt
          rw [inD_sec, hSk2] at hszw
          obtain ⟨x, hx⟩ : ∃ x, (D.sec k).ws[j]? = some x := ⟨_, List.getElem?_eq_getElem (by have := HM.out; omega)⟩
          have hxm : x ∈ (D.sec k).ws := List.mem_of_getElem? hx
          have hx2 := hszw x hxm
          obtain ⟨g, rfl⟩ : ∃ g, A = some ⟨g, 0, none⟩ := by
            rcases hown.2 with ⟨e, h⟩ | ⟨g, cap, cur, e, _⟩
            · omega
            · injection e with e1; exact ⟨g, e1⟩
          have hrg : w2.rangeAt g (j * 341) (wrC x) := fun q v hv => by
            have h2 := hown.cells (g := g) rfl _ _ (wsC_at (fun y hy => (hszw y hy).1) hx q v hv)
            rwa [Go.WideShapes.add_plain, Nat.zero_add] at h2
          have hin : (Try.prog.info? tWt).map (·.size) = some (wrC x).length := by rw [wrC_len hx2.1]; exact wt_info
          have hlz : (wrC x).length = 341 := wrC_len hx2.1
          have hz : Try.zeroCells106.size = 341 := by kernel_rfl
          have hth : (w2.alloc (.cells Try.zeroCells106 tWt)).there w2.heap.size 0 341 := fun q hq => by
            refine ⟨?_, (Blk.new w2 tWt _).free _⟩
            rw [(Blk.new w2 tWt _).cell, Array.getElem?_eq_getElem (by omega)]
            rfl
          have hst : (storeCells ⟨w2.heap.size, 0, none⟩ (wrC x)).run Try.prog (w2.alloc (.cells Try.zeroCells106 tWt)) = .ok () ((w2.alloc (.cells Try.zeroCells106 tWt)).setCells w2.heap.size 0 (wrC x)) :=
            run_storeCells_cells (P := Try.prog) w2.heap.size 0 (wrC x) 0 _ (fun q hq => by rw [hlz] at hq; have := (hth q hq).1; rw [Nat.zero_add] at this; rw [show 0 + 0 + q = q by omega]; exact this) (fun q hq => by rw [hlz] at hq; have := (hth q hq).2; rw [Nat.zero_add] at this; rw [show 0 + 0 + q = q by omega]; exact this) (wrC_one _)
          have hr1 := World.rangeAt_setCells_same (w2.alloc (.cells Try.zeroCells106 tWt)) w2.heap.size 0 (wrC x) (by rw [hlz]; exact hth)
          have cn : ((w2.alloc (.cells Try.zeroCells106 tWt)).setCells w2.heap.size 0 (wrC x)).cell? ⟨w2.heap.size, 0, none⟩ = some (.int .i64 x.1) := by have := hr1 0 _ rfl; rwa [Nat.zero_add] at this
          have HR := Lib.hid hrg
          have HI := Lib.hid hin
          have HD2 := Lib.hid hd2
          have HB2 := Lib.hid hb2
          have hjm : (j : Int) < (m : Int) := by omega
          clear hrg hin hd2 hb2 hown hszw hth hz
          go_wp2_with fail
          refine wp_load_mid tWt (.tmp 29) rfl g (j * 341) rfl _ _ HR.out Try.underlying106 rfl HI.out ?_
          have hb1 : Below w2.heap.size w2 ((w2.alloc (.cells Try.zeroCells106 tWt)).setCells w2.heap.size 0 (wrC x)) := below_cells (Nat.le_refl _) _ _ _ ((Below.refl _ _).alloc (Nat.le_refl _) _)
          have hbw2 : base ≤ w2.heap.size := Nat.le_trans HD2.out.hB (Nat.le_of_lt HD2.out.ltB)
          have h4 : DkAt ((w2.alloc (.cells Try.zeroCells106 tWt)).setCells w2.heap.size 0 (wrC x)) base p B (outV V k) (inD keep (outD keep D k) k j) := HD2.out.keep (fun g _ hg => hb1.block g hg)
          have HB4 := Lib.hid (HB2.out.trans (hb1.mono hbw2))
          have HY4 := Lib.hid (HY2.out.trans (Ty.of_below hb1))
          have hbt := bit_test keep x.1 hkp
          have hxk : ((outD keep D k).sec k).ws[j]? = some x := by rw [hSk2]; exact hx
          cases htb : keep.testBit x.1 with
          | false =>
            rw [htb] at hbt
            rw [inD_miss hxk htb] at h4
            have H4 := Lib.hid h4
            clear h4 hb1 hx hxk htb
            go_wp2
            go_roundw
            case rel => exact ⟨j + 1, by omega, by go_num, H4.out, HB4.out, HY4.out⟩
            case measure => simp [intOf]; omega
          | true =>
            rw [htb] at hbt
            have h5 := h4.setDur hlt x.2 hx2.1
            rw [inD_hit hxk htb] at h5
            have hr5 : ((w2.alloc (.cells Try.zeroCells106 tWt)).setCells w2.heap.size 0 (wrC x)).rangeAt w2.heap.size 1 (Lib.strCells x.2) := fun q v hv => by
              have := hr1 (q + 1) v (by unfold wrC; rw [List.getElem?_cons_succ]; exact hv)
              rwa [Nat.zero_add, Nat.add_comm] at this
            have hlx : (Lib.strCells x.2).length = 340 := by rw [Lib.strCells_length]; exact hx2.1
            have hst2 : (storeCells ⟨B, k * 341, none⟩ (Lib.strCells x.2)).run Try.prog ((w2.alloc (.cells Try.zeroCells106 tWt)).setCells w2.heap.size 0 (wrC x)) = .ok () (((w2.alloc (.cells Try.zeroCells106 tWt)).setCells w2.heap.size 0 (wrC x)).setCells B (k * 341) (Lib.strCells x.2)) :=
              run_storeCells_cells (P := Try.prog) B (k * 341) (Lib.strCells x.2) 0 _ (fun q hq => (h4.there hlt q (by omega)).1) (fun q hq => (h4.there hlt q (by omega)).2) (strCells_one _)
            have HR5 := Lib.hid hr5
            have HI5 := Lib.hid (show (Try.prog.info? tBk).map (·.size) = some (Lib.strCells x.2).length by rw [hlx]; exact bk_info)
            have H5 := Lib.hid h5
            have HY5 := Lib.hid (show Ty w (((w2.alloc (.cells Try.zeroCells106 tWt)).setCells w2.heap.size 0 (wrC x)).setCells B (k * 341) (Lib.strCells x.2)) from by
              obtain ⟨cs, hbk, _⟩ := h4.se
              exact HY4.out.trans (Ty.setCellsB hbk _ _))
            have HB5 := Lib.hid (below_cells h4.hB (Lib.strCells x.2) (k * 341) _ HB4.out)
            clear h4 hb1 hx hxk htb h5 hr5 hr1
            go_wp2_with fail
            refine wp_load_mid tBk (.tmp 38) rfl w2.heap.size 1 rfl _ _ HR5.out Try.underlying104 rfl HI5.out ?_
            go_wp2
            go_roundw
            case rel => exact ⟨j + 1, by omega, by go_num, H5.out, HB5.out, HY5.out⟩
            case measure => simp [intOf]; omega
        · obtain rfl : j = m := by omega
          have hjm : decide ((j : Int) < (j : Int)) = false := decide_eq_false (by omega)
          obtain ⟨cs, hbk, hcz⟩ := hd2.se
          have c3 : w2.cell? ⟨B, k * 341 + 340, none⟩ = some (.slice A j c) := by
            have := hd2.row k hlt 340 _ (seC_340 _ _ (hd2.szd k hlt)); rw [this, HV.out, HM.out]
          have f3 := hbk.free (k * 341 + 340)
          have h3 := hd2.swap hlt (.slice none 0 0) [] (fun g _ _ _ => rfl) (World.ownsRow_nil _ _ _ _) (.inr (fun g hg => by cases hg)) (fun x hx => by cases hx)
          rw [out_next keep D k j HM.out, outV_next] at h3
          have HY3 := Lib.hid (HY2.out.trans (Ty.setB (i := k * 341 + 340) hbk (.slice none 0 0)))
          have H3 := Lib.hid h3
          have HB3 := Lib.hid (hb2.setCell (p := ⟨B, k * 341 + 340, none⟩) (by simpa using hd2.hB) (.slice none 0 0))
          clear hd2 hb2 hbk hcz h3
          go_wp2
          go_roundw
          case rel => exact ⟨k + 1, by omega, by go_num, H3.out, HB3.out, HY3.out⟩
          case measure => simp [intOf]; omega
    · obtain rfl : k = D.n := by omega
      have hlti : decide ((D.n : Int) < (D.n : Int)) = false := decide_eq_false (by omega)
      have c3 : wr.cell? ⟨p, 3, none⟩ = some (.int .i64 D.next) := hd.dk.cell 3
      have f3 := hd.dk.free 3
      have h3 := hd.upd D.left D.down 0 (by omega) (by have := hd.dk.set 3 (.int .i64 0); exact this) (upd_setp (i := 3) (.int .i64 0))
      have h4 := h3.congr (settleR keep D).sec (fun i hi => by
        show _ = (outD keep D D.n).sec i
        have hi' : i < D.n := hi
        simp [outD, settleR, hi'])
      have HY4 := Lib.hid (HY.out.trans (Ty.setP (i := 3) hd.dk (.int .i64 0)))
      have H4 := Lib.hid h4
      have HB := Lib.hid (hb.setCell (p := ⟨p, 3, none⟩) (by simpa using hd.hp) (.int .i64 0))
      clear hd hb h3 h4
      go_wp2
      go_end0
      exact ⟨rfl, ⟨_, H4.out⟩, HB.out, HY4.out⟩
end Go.Proofs.Ytgkenknplepmeaa
namespace Go.Proofs.Ytgkenknplepmeaa
open Go.RowKit

set_option maxRecDepth 100000 in
set_option maxHeartbeats 1000000 in
theorem flush_any (base p B : Nat) (V : Nat → Value) (D : Dk) (w : World) (h : DkAt w base p B V D) (hl : -9223372036854775808 ≤ D.left ∧ D.left ≤ 9223372036854775807) (hsm : ∀ i, i < D.n → (D.sec i).ws.length ≤ 100000) :
    Calls Try.prog 22 #[ptr p] w fun e w' => e = .returned (erV (flushR D).2) ∧ (∃ V', DkAt w' base p B V' (flushR D).1) ∧ Below base w w' ∧ Ty w w' := by
  have HST := Lib.hid (step_any base p B V D w h hl)
  have hbp := h.hp
  have HDK := Lib.hid h.dk
  have hbw : base ≤ w.heap.size := Nat.le_trans h.hp (Nat.le_of_lt h.ltp)
  by_cases h0 : (stepR D).2 = 0
  · have hst1 : stepR D = ({ D with left := if 0 < D.left then D.left - 1 else D.left }, 0) := by
      unfold stepR at h0 ⊢
      split at h0
      · cases h0
      · rename_i hx; rw [if_neg hx]
    have HF := Lib.hid (show flushR D = (settleR allK (stepR D).1, 0) by unfold flushR; rw [if_neg (by simp [h0])])
    have hsm1 : ∀ i, i < (stepR D).1.n → ((stepR D).1.sec i).ws.length ≤ 100000 := by rw [hst1]; exact hsm
    rw [h0] at HST
    have HSM := Lib.hid hsm1
    clear h hst1 h0 hsm hsm1 hl
    generalize (stepR D).1 = D1 at *
    have HSET := Lib.hid (show ∀ w1, DkAt w1 base p B V D1 → Calls Try.prog 64 #[ptr p, .int .u64 18446744073709551615] w1 fun e w' => e = .returned (.tuple #[]) ∧ (∃ V', DkAt w' base p B V' (settleR allK D1)) ∧ Below base w1 w' ∧ Ty w1 w' from fun w1 h => by have := settle_any base p B V D1 allK w1 h allK_lt HSM.out; rwa [allK_int] at this)
    go_enter Try.func22, Try.ntmps22
    go_wp2_with (first | (go_at_call 61; refine HST.out.mono ?_; rintro e w1 ⟨rfl, hd1, hu1⟩; have HD1 := Lib.hid hd1; have HY1 := Lib.hid (Ty.of_upd HDK.out hu1); have HU1 := Lib.hid (hu1.below hbw (fun g e => by rw [e]; exact hbp)); clear hd1 hu1; rw [show erV 0 = .nilIface from rfl]) | (go_at_call 64; refine (HSET.out w1 HD1.out).mono ?_; rintro e w2 ⟨rfl, hd2, hb2, hy2⟩; have HD2 := Lib.hid hd2; have HB2 := Lib.hid (HU1.out.trans hb2); have HY2 := Lib.hid (HY1.out.trans hy2); clear hd2 hb2 hy2))
    go_ret
    exact ⟨by rw [HF.out]; rfl, by rw [HF.out]; exact HD2.out, HB2.out, HY2.out⟩
  · have HF := Lib.hid (show flushR D = stepR D by unfold flushR; rw [if_pos h0])
    have herr : erV (stepR D).2 = .iface 96 (.int .i64 (stepR D).2) := by unfold erV; rw [if_neg h0]
    rw [herr] at HST
    clear h h0 hsm hl
    go_enter Try.func22, Try.ntmps22
    go_wp2_with (go_at_call 61; refine HST.out.mono ?_; rintro e w1 ⟨rfl, hd1, hu1⟩; have HD1 := Lib.hid hd1; have HY1 := Lib.hid (Ty.of_upd HDK.out hu1); have HU1 := Lib.hid (hu1.below hbw (fun g e => by rw [e]; exact hbp)); clear hd1 hu1)
    go_ret
    exact ⟨by rw [HF.out, herr]; rfl, by rw [HF.out]; exact ⟨V, HD1.out⟩, HU1.out, HY1.out⟩

set_option maxRecDepth 100000 in
set_option maxHeartbeats 1000000 in
theorem restart_any (base p B : Nat) (V : Nat → Value) (D : Dk) (keep : Nat) (w : World) (h : DkAt w base p B V D) (hkp : keep < 2 ^ 64) (hsm : ∀ i, i < D.n → (D.sec i).ws.length ≤ 100000) :
    Calls Try.prog 25 #[ptr p, .int .u64 keep] w fun e w' => e = .returned (.tuple #[]) ∧ (∃ V', DkAt w' base p B V' (restartR keep D)) ∧ Below base w w' ∧ Ty w w' := by
  have HS := Lib.hid (settle_any base p B V D keep w h hkp hsm)
  have hbp := h.hp
  clear h hsm
  go_enter Try.func25, Try.ntmps25
  go_wp2_with fail
  refine HS.out.mono ?_
  rintro e w1 ⟨rfl, ⟨V1, hd1⟩, hb1, hy1⟩
  have c2 : w1.cell? ⟨p, 2, none⟩ = some (.bool D.down) := hd1.dk.cell 2
  have c1 : w1.cell? ⟨p, 1, none⟩ = some (.int .i64 D.left) := hd1.dk.cell 1
  have f1 := hd1.dk.free 1
  have f2 := hd1.dk.free 2
  have hd2 := hd1.upd D.left false 0 (by omega) (by have := hd1.dk.set 2 (.bool false); exact this) (upd_setp (i := 2) (.bool false))
  have c1' : (w1.setCell ⟨p, 2, none⟩ (.bool false)).cell? ⟨p, 1, none⟩ = some (.int .i64 D.left) := hd2.dk.cell 1
  have f1' := hd2.dk.free 1
  have hd3 := hd2.upd (-1) false 0 (by omega) (by have := hd2.dk.set 1 (.int .i64 (-1)); exact this) (upd_setp (i := 1) (.int .i64 (-1)))
  have e1 := hd1.upd (-1) D.down 0 (by omega) (by have := hd1.dk.set 1 (.int .i64 (-1)); exact this) (upd_setp (i := 1) (.int .i64 (-1)))
  have c2' : (w1.setCell ⟨p, 1, none⟩ (.int .i64 (-1))).cell? ⟨p, 2, none⟩ = some (.bool D.down) := e1.dk.cell 2
  have f2' := e1.dk.free 2
  have e2 := e1.upd (-1) false 0 (by omega) (by have := e1.dk.set 2 (.bool false); exact this) (upd_setp (i := 2) (.bool false))
  have HY3 := Lib.hid ((hy1.trans (Ty.setP (i := 2) hd1.dk (.bool false))).trans (Ty.setP (i := 1) hd2.dk (.int .i64 (-1))))
  have HY4 := Lib.hid ((hy1.trans (Ty.setP (i := 1) hd1.dk (.int .i64 (-1)))).trans (Ty.setP (i := 2) e1.dk (.bool false)))
  have HD3 := Lib.hid hd3
  have HE2 := Lib.hid e2
  have HB3 := Lib.hid ((hb1.setCell (p := ⟨p, 2, none⟩) (by simpa using hbp) (.bool false)).setCell (p := ⟨p, 1, none⟩) (by simpa using hbp) (.int .i64 (-1)))
  have HB4 := Lib.hid ((hb1.setCell (p := ⟨p, 1, none⟩) (by simpa using hbp) (.int .i64 (-1))).setCell (p := ⟨p, 2, none⟩) (by simpa using hbp) (.bool false))
  clear hd1 hb1 hd2 hd3 e1 e2 hy1
  go_wp2
  go_end0
  first | exact ⟨rfl, ⟨V1, HD3.out⟩, HB3.out, HY3.out⟩ | exact ⟨rfl, ⟨V1, HE2.out⟩, HB4.out, HY4.out⟩
end Go.Proofs.Ytgkenknplepmeaa
