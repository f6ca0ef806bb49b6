/-
  WALK: package disk: slices.DeleteFunc over the writes of a sector, where some are struck.
-/
import Derived.Test.YtgkenknplepmeaaBuild
import Derived.Test.YtgkenknplepmeaaDkC
import Derived.Test.YtgkenknplepmeaaDkF
namespace Go.Proofs.Ytgkenknplepmeaa
open Go.RowKit

/-- The writes without those of a bit. -/
def strikeW (nx : Nat) (l : SW) : SW := l.filter (fun x => x.1 != nx)
theorem strikeW_none {nx : Nat} {l : SW} (h : ∀ x ∈ l, x.1 ≠ nx) : strikeW nx l = l := List.filter_eq_self.2 (fun x hx => by simpa using h x hx)
theorem strikeW_hit {nx k : Nat} {l : SW} {x : Nat × ByteArray} (h : l[k]? = some x) (hx : x.1 = nx) : strikeW nx (l.take (k + 1)) = strikeW nx (l.take k) := by
  rw [List.take_add_one, h]; simp [strikeW, hx]
theorem strikeW_miss {nx k : Nat} {l : SW} {x : Nat × ByteArray} (h : l[k]? = some x) (hx : x.1 ≠ nx) : strikeW nx (l.take (k + 1)) = strikeW nx (l.take k) ++ [x] := by
  rw [List.take_add_one, h]; simp [strikeW, hx]
theorem strikeW_len (nx k : Nat) (l : SW) : (strikeW nx (l.take k)).length ≤ k := Nat.le_trans (List.length_filter_le _ _) (List.length_take_le _ _)
theorem strikeW_mem {nx : Nat} {l : SW} {x : Nat × ByteArray} (h : x ∈ strikeW nx l) : x ∈ l := (List.mem_filter.1 h).1
theorem strikeW_ne {nx : Nat} {l : SW} {x : Nat × ByteArray} (h : x ∈ strikeW nx l) : x.1 ≠ nx := by simpa using (List.mem_filter.1 h).2

set_option maxRecDepth 100000 in
set_option maxHeartbeats 1000000 in
theorem bit_hit (x : Nat × ByteArray) (X nx : Nat) (w : World) (hx : w.cell? ⟨X, 0, none⟩ = some (.int .i64 nx)) (hX : X < w.heap.size) (hne : x.1 = nx) :
    Calls Try.prog 89 #[.agg (wrC x).toArray, ptr X] w fun e w' => e = .returned (.bool true) ∧ Below w.heap.size w w' := by
  have c0 : (w.alloc (.cells (wrC x).toArray tWt)).cell? ⟨w.heap.size, 0, none⟩ = some (.int .i64 x.1) := by rw [(Blk.new w tWt _).cell]; rfl
  have cX : (w.alloc (.cells (wrC x).toArray tWt)).cell? ⟨X, 0, none⟩ = some (.int .i64 nx) := by rw [World.cell?_alloc_lt _ _ _ hX]; exact hx
  have hq : ((x.1 : Int) == (nx : Int)) = true := by rw [beq_iff_eq]; omega
  have HB := Lib.hid (show Below w.heap.size w (w.alloc (.cells (wrC x).toArray tWt)) from (Below.refl _ _).alloc (Nat.le_refl _) _)
  clear hne
  generalize (wrC x).toArray = cs at *
  go_enter Try.func89, Try.ntmps89
  go_wp2
  go_ret
  exact ⟨by first | rfl | rw [hq], HB.out⟩

def IhRel (w : World) (nx m : Nat) (ws : SW) (i : Value) (wr : World) : Prop := ∃ k : Nat, k ≤ m ∧ i = .int .i64 k ∧ Below w.heap.size w wr ∧ ∀ j x, j < k → ws[j]? = some x → x.1 ≠ nx
def IhPost (w : World) (nx m : Nat) (ws : SW) (e : Ending) (w' : World) : Prop := ∃ k : Nat, k < m ∧ e = .returned (.int .i64 k) ∧ Below w.heap.size w w' ∧ (∀ j x, j < k → ws[j]? = some x → x.1 ≠ nx) ∧ ∃ x, ws[k]? = some x ∧ x.1 = nx
set_option maxRecDepth 100000 in
set_option maxHeartbeats 1000000 in
theorem indexF_hit (base X nx m c : Nat) (A : Option Addr) (ws : SW) (w : World) (ho : w.ownsRow base tWt 341 (.slice A m c) m (wsC ws)) (hm : ws.length = m) (hs : ∀ x ∈ ws, x.2.size = 340) (hx : w.cell? ⟨X, 0, none⟩ = some (.int .i64 nx)) (hX : X < w.heap.size) (hn : ∃ x ∈ ws, x.1 = nx) (hm2 : m ≤ 1000000) :
    Calls Try.prog 106 #[.slice A m c, sameBit X] w (IhPost w nx m ws) := by
  have HO := Lib.hid ho
  have HM := Lib.hid hm
  have HS := Lib.hid hs
  have HN := Lib.hid hn
  have HX := Lib.hid hx
  clear ho hm hs hn hx
  go_enter Try.func106, Try.ntmps106
  go_wp2
  go_loopw [8] (fun i wr => IhRel w nx m ws i wr) (fun i _ => m - (intOf i).toNat)
  case atStart => exact ⟨0, Nat.zero_le _, rfl, Below.refl _ _, fun j x h => by omega⟩
  case round =>
    obtain ⟨k, hk, rfl, hb, hno⟩ := hrel
    have HB := Lib.hid hb
    have HNo := Lib.hid hno
    have hsz := hb.size
    clear hb hno
    by_cases hlt : k < m
    · obtain ⟨x, hx⟩ : ∃ x, ws[k]? = some x := ⟨_, List.getElem?_eq_getElem (by have := HM.out; omega)⟩
      have hxm : x ∈ ws := List.mem_of_getElem? hx
      obtain ⟨g, rfl⟩ : ∃ g, A = some ⟨g, 0, none⟩ := by
        rcases HO.out.2 with ⟨e, h⟩ | ⟨g, cap, cur, e, _⟩
        · omega
        · injection e with e1; exact ⟨g, e1⟩
      have hg := HO.out.lt g rfl
      have hrg : wr.rangeAt g (k * 341) (wrC x) := fun j v hv => by
        rw [HB.out.cell (p := ⟨g, k * 341 + j, none⟩) hg.2]
        have h2 := HO.out.cells (g := g) rfl _ _ (wsC_at HS.out hx j v hv)
        rwa [Go.WideShapes.add_plain, Nat.zero_add] at h2
      have hin : (Try.prog.info? tWt).map (·.size) = some (wrC x).length := by rw [wrC_len (HS.out x hxm)]; exact wt_info
      have hcX := (HB.out.cell (p := ⟨X, 0, none⟩) hX).trans HX.out
      have hXr : X < wr.heap.size := by omega
      have HR := Lib.hid hrg
      have HI := Lib.hid hin
      have HXX := Lib.hid hx
      have hkm : (k : Int) < (m : Int) := by omega
      clear hrg hin hx hxm
      by_cases hh : x.1 = nx
      · have HC := Lib.hid (bit_hit x X nx wr hcX hXr hh)
        have HH := Lib.hid hh
        clear hcX hXr hh
        go_wp2_with fail
        refine wp_load_mid tWt (.tmp 14) rfl g (k * 341) rfl _ _ HR.out Try.underlying106 rfl HI.out ?_
        clear HR HI
        generalize (wrC x).toArray = cs at *
        go_wp2_with (go_at_call 89; refine HC.out.mono ?_; rintro e w2 ⟨rfl, hb2⟩; have HB2 := Lib.hid (HB.out.trans (hb2.mono hsz)); clear hb2)
        go_ret
        exact ⟨k, hlt, rfl, HB2.out, HNo.out, x, HXX.out, HH.out⟩
      · have HC := Lib.hid (bit_any x X nx wr hcX hXr hh)
        have HH := Lib.hid hh
        clear hcX hXr hh
        go_wp2_with fail
        refine wp_load_mid tWt (.tmp 14) rfl g (k * 341) rfl _ _ HR.out Try.underlying106 rfl HI.out ?_
        clear HR HI
        generalize (wrC x).toArray = cs at *
        go_wp2_with (go_at_call 89; refine HC.out.mono ?_; rintro e w2 ⟨rfl, hb2⟩; have HB2 := Lib.hid (HB.out.trans (hb2.mono hsz)); clear hb2)
        go_roundw
        case rel => exact ⟨k + 1, by omega, by go_num, HB2.out, fun j y hj hy => by
          rcases Nat.lt_or_ge j k with h1 | h1
          · exact HNo.out j y h1 hy
          · obtain rfl : j = k := by omega
            rw [HXX.out] at hy
            injection hy with hy
            rw [← hy]; exact HH.out⟩
        case measure => simp [intOf]; omega
    · exfalso
      obtain ⟨x, hx, he⟩ := HN.out
      obtain ⟨j, hj, e⟩ := List.mem_iff_getElem.1 hx
      have := HM.out
      exact HNo.out j x (by omega) (by rw [List.getElem?_eq_getElem hj, e]) he

theorem upd_setCells {a : World} {S : Nat → Prop} {b : Nat} (hb : a.heap.size ≤ b ∨ S b) : ∀ (vs : List Value) (o : Nat) (w : World), Upd a w S → Upd a (w.setCells b o vs) S
  | [], _, _, h => h
  | v :: r, o, _, h => upd_setCells hb r (o + 1) _ (h.set hb v)
/-- The row while it is being struck: k writes are through. -/
structure DelAt (w wr : World) (g c nx k : Nat) (ws : SW) : Prop where
  blk : ∃ cs, Blk wr g tWt cs ∧ cs.size = c * 341
  done : wr.rangeAt g 0 (wsC (strikeW nx (ws.take k)))
  rest : ∀ q x, k ≤ q → ws[q]? = some x → wr.rangeAt g (q * 341) (wrC x)
  upd : Upd w wr (fun h => h = g)
theorem DelAt.below {w wr w' : World} {g c nx k : Nat} {ws : SW} (h : DelAt w wr g c nx k ws) (hb : Below wr.heap.size wr w') : DelAt w w' g c nx k ws := by
  obtain ⟨cs, h1, h2⟩ := h.blk
  have eb := hb.block g h1.lt
  exact ⟨⟨cs, eb.trans h1, h2⟩, rangeAt_block h.done eb, fun q x hq hx => rangeAt_block (h.rest q x hq hx) eb, h.upd.trans ⟨hb.os, hb.tape, hb.output, hb.size, fun i hi _ => hb.block i hi⟩ (fun i _ (hf : False) => hf.elim)⟩
theorem DelAt.hit {w wr : World} {g c nx k : Nat} {ws : SW} {x : Nat × ByteArray} (h : DelAt w wr g c nx k ws) (hx : ws[k]? = some x) (he : x.1 = nx) : DelAt w wr g c nx (k + 1) ws :=
  ⟨h.blk, by rw [strikeW_hit hx he]; exact h.done, fun q y hq hy => h.rest q y (by omega) hy, h.upd⟩
theorem strikeW_sizes {nx k : Nat} {ws : SW} (hs : ∀ x ∈ ws, x.2.size = 340) : ∀ x ∈ strikeW nx (ws.take k), x.2.size = 340 := fun x hx => hs x (List.mem_of_mem_take (strikeW_mem hx))
theorem DelAt.there {w wr : World} {g c nx k : Nat} {ws : SW} (h : DelAt w wr g c nx k ws) {o n : Nat} (ho : o + n ≤ c * 341) : wr.there g o n := by
  obtain ⟨cs, h1, h2⟩ := h.blk
  intro j hj
  exact ⟨by rw [h1.cell, Array.getElem?_eq_getElem (by omega)]; rfl, h1.free _⟩
set_option maxRecDepth 100000 in
theorem DelAt.miss {w wr : World} {g c nx k : Nat} {ws : SW} {x : Nat × ByteArray} (h : DelAt w wr g c nx k ws) (hs : ∀ x ∈ ws, x.2.size = 340) (hx : ws[k]? = some x) (he : x.1 ≠ nx) (hq : (strikeW nx (ws.take k)).length < k) (hk : k < c) :
    DelAt w (wr.setCells g ((strikeW nx (ws.take k)).length * 341) (wrC x)) g c nx (k + 1) ws := by
  have hxs := wrC_len (hs x (List.mem_of_getElem? hx))
  have hl := wsC_len (strikeW_sizes (nx := nx) (k := k) hs)
  obtain ⟨L, hL⟩ : ∃ L, (strikeW nx (ws.take k)).length = L := ⟨_, rfl⟩
  rw [hL] at hl hq ⊢
  obtain ⟨cs, h1, h2⟩ := h.blk
  obtain ⟨cs', h3, h4⟩ := Blk.setCells (wrC x) (L * 341) wr cs h1
  have hqk := Nat.mul_le_mul_right 341 (show L + 1 ≤ k from hq)
  have hkc := Nat.mul_le_mul_right 341 (show k ≤ c by omega)
  refine ⟨⟨cs', h3, by rw [h4, h2]⟩, ?_, fun q y hq2 hy => ?_, ?_⟩
  · rw [strikeW_miss hx he, wsC_snoc]
    intro j v hv
    rcases Nat.lt_or_ge j (wsC (strikeW nx (ws.take k))).length with hj | hj
    · rw [List.getElem?_append_left hj] at hv
      exact World.rangeAt_setCells_apart h.done g _ (wrC x) (.inr (.inl (by rw [hl]; exact Nat.le_of_eq (Nat.zero_add _)))) j v hv
    · rw [List.getElem?_append_right hj] at hv
      have := World.rangeAt_setCells_same wr g (L * 341) (wrC x) (h.there (by rw [hxs]; omega)) _ v hv
      rw [Nat.zero_add]
      rw [hl, show L * 341 + (j - L * 341) = j by omega] at this
      exact this
  · have := Nat.mul_le_mul_right 341 (show k + 1 ≤ q from hq2)
    exact World.rangeAt_setCells_apart (h.rest q y (by omega) hy) g _ (wrC x) (.inr (.inr (by rw [hxs]; omega)))
  · exact upd_setCells (S := fun h => h = g) (.inr rfl) _ _ _ h.upd
theorem run_clear_wide {P : Program} (w : World) (t e : TypeId) (z : Value) (ht : P.underlying t = some (.slice e)) (hv : ∀ w, (zeroValue e).run P w = .ok z w) (h1 : ∀ v ∈ z.cells.toList, v.oneCell' = true) (b o n c : Nat) (hn : 0 < n)
    (hc : w.there b o (n * z.cells.size)) :
    ∃ cs : List Value, cs.length = n * z.cells.size ∧ ∀ ty, (Builtin.clear_ #[t] ty #[.slice (some ⟨b, o, none⟩) n c]).run P w = .ok (.tuple #[]) (w.setCells b o cs) := by
  have hl : (Builtin.zeroCells z.cells n).toList.length = n * z.cells.size := by rw [Array.length_toList, size_zeroCells]
  have hst := run_storeCells_cells (P := P) b o (Builtin.zeroCells z.cells n).toList 0 w (fun j hj => by rw [Nat.add_zero]; exact (hc j (by omega)).1) (fun j hj => by rw [Nat.add_zero]; exact (hc j (by omega)).2) (by
    intro v hv'
    obtain ⟨j, hj, e⟩ := List.mem_iff_getElem.1 hv'
    simp [Builtin.zeroCells] at e
    rw [← e]
    refine h1 _ ?_
    have hz : 0 < z.cells.size := by
      rcases Nat.eq_zero_or_pos z.cells.size with h0 | h0
      · rw [hl, h0] at hj; omega
      · exact h0
    rw [getElem!_pos z.cells _ (Nat.mod_lt _ hz)]
    simp)
  simp only [Nat.add_zero] at hst
  obtain ⟨m, rfl⟩ : ∃ m, n = m + 1 := ⟨n - 1, by omega⟩
  exact ⟨_, hl, fun ty => by simp [Builtin.clear_, run_underlying ht, hv, hst]⟩

def DelRel (w : World) (g c nx m : Nat) (ws : SW) (i j : Value) (wr : World) : Prop :=
  ∃ k : Nat, k ≤ m ∧ (strikeW nx (ws.take k)).length < k ∧ j = .int .i64 k ∧ i = .int .i64 (strikeW nx (ws.take k)).length ∧ DelAt w wr g c nx k ws
def DelPost (w : World) (base nx m c : Nat) (A : Option Addr) (ws : SW) (e : Ending) (w' : World) : Prop :=
  e = .returned (.slice A (strikeW nx ws).length c) ∧ w'.ownsRow base tWt 341 (.slice A (strikeW nx ws).length c) (strikeW nx ws).length (wsC (strikeW nx ws)) ∧ Upd w w' (fun g => (Value.slice A m c).ownBlock = some g)
/-- The row when all is through. -/
theorem DelAt.own {w wr : World} {base g c nx m : Nat} {ws : SW} (h : DelAt w wr g c nx m ws) (hm : ws.length = m) (hb : base ≤ g) (hc : c ≤ maxLen) (hmc : m ≤ c) (hs : ∀ x ∈ ws, x.2.size = 340) :
    wr.ownsRow base tWt 341 (.slice (some ⟨g, 0, none⟩) (strikeW nx ws).length c) (strikeW nx ws).length (wsC (strikeW nx ws)) := by
  have hd := h.done
  rw [List.take_of_length_le (by omega)] at hd
  obtain ⟨cs, h1, h2⟩ := h.blk
  have hl := wsC_len (l := strikeW nx ws) (fun x hx => hs x (strikeW_mem hx))
  have hle : (strikeW nx ws).length ≤ ws.length := List.length_filter_le _ _
  refine ⟨hl, .inr ⟨g, c, cs, rfl, hb, h1, by omega, hc, h2, ?_⟩⟩
  have hcm := Nat.mul_le_mul_right 341 (show (strikeW nx ws).length ≤ c by omega)
  refine List.ext_getElem? (fun j => ?_)
  rcases Nat.lt_or_ge j (wsC (strikeW nx ws)).length with hj | hj
  · rw [List.getElem?_take, if_pos (by omega), List.getElem?_eq_getElem hj]
    have := hd j _ (List.getElem?_eq_getElem hj)
    rw [Nat.zero_add, h1.cell] at this
    rw [Array.getElem?_toList]
    exact this
  · rw [List.getElem?_take, if_neg (by omega), List.getElem?_eq_none hj]
theorem DelAt.wiped {w wr : World} {g c nx m q : Nat} {ws : SW} {cs : List Value} (h : DelAt w wr g c nx m ws) (hm : ws.length = m) (hs : ∀ x ∈ ws, x.2.size = 340) (hq : (strikeW nx (ws.take m)).length = q) : DelAt w (wr.setCells g (q * 341) cs) g c nx m ws := by
  obtain ⟨a, h1, h2⟩ := h.blk
  obtain ⟨cs', h3, h4⟩ := Blk.setCells cs (q * 341) wr a h1
  have hl := wsC_len (strikeW_sizes (nx := nx) (k := m) hs)
  refine ⟨⟨cs', h3, by rw [h4, h2]⟩, World.rangeAt_setCells_apart h.done g _ cs (.inr (.inl (by rw [hl, hq]; omega))), fun j x hj hx => ?_, upd_setCells (S := fun h => h = g) (.inr rfl) _ _ _ h.upd⟩
  have : j < ws.length := (List.getElem?_eq_some_iff.1 hx).1
  omega
theorem wt_zeroV : ∀ w, (zeroValue tWt).run Try.prog w = .ok wtZ w := fun w => by kernel_rfl

end Go.Proofs.Ytgkenknplepmeaa
namespace Go.Proofs.Ytgkenknplepmeaa
open Go.RowKit

set_option maxRecDepth 100000 in
set_option maxHeartbeats 2000000 in
theorem deleteF_hit (base X nx m c : Nat) (A : Option Addr) (ws : SW) (w : World) (ho : w.ownsRow base tWt 341 (.slice A m c) m (wsC ws)) (hm : ws.length = m) (hs : ∀ x ∈ ws, x.2.size = 340) (hx : w.cell? ⟨X, 0, none⟩ = some (.int .i64 nx)) (hX : X < w.heap.size) (hXne : (Value.slice A m c).ownBlock ≠ some X) (hn : ∃ x ∈ ws, x.1 = nx) (hm2 : m ≤ 1000000) :
    Calls Try.prog 88 #[.slice A m c, sameBit X] w (DelPost w base nx m c A ws) := by
  have HC := Lib.hid (indexF_hit base X nx m c A ws w ho hm hs hx hX hn hm2)
  obtain ⟨g, rfl⟩ : ∃ g, A = some ⟨g, 0, none⟩ := by
    rcases ho.2 with ⟨e, h⟩ | ⟨g, cap, cur, e, _⟩
    · obtain ⟨x, hx, _⟩ := hn
      have : 0 < ws.length := List.length_pos_of_mem hx
      omega
    · injection e with e1; exact ⟨g, e1⟩
  obtain ⟨cur, hbg, hblk, hmc, hcm, hcur⟩ : ∃ cur, base ≤ g ∧ Blk w g tWt cur ∧ m ≤ c ∧ c ≤ maxLen ∧ cur.size = c * 341 := by
    rcases ho.2 with ⟨e, h⟩ | ⟨g', cap, cur, e, h1, h2, h3, h4, h5, _⟩
    · cases e
    · injection e with e1 e2 e3
      injection e1 with e1
      injection e1 with e1
      subst e1 e3
      exact ⟨cur, h1, h2, h3, h4, h5⟩
  have hXg : X ≠ g := fun e => hXne (by rw [e]; rfl)
  have hg := ho.lt g rfl
  have HO := Lib.hid ho
  have HM := Lib.hid hm
  have HS := Lib.hid hs
  have HX := Lib.hid hx
  have HBLK := Lib.hid hblk
  have HCUR := Lib.hid hcur
  have HCM := Lib.hid hcm
  have hcm' := hcm
  unfold maxLen at hcm'
  clear ho hm hs hn hx hblk hcur hXne hcm
  go_enter Try.func88, Try.ntmps88
  go_wp2_with fail
  refine HC.out.mono ?_
  rintro e w1 ⟨i0, hi0, rfl, hb1, hno, x0, hx0, he0⟩
  have hne1 : ((i0 : Int) == -1) = false := by rw [beq_eq_false_iff_ne]; omega
  have hst0 : strikeW nx (ws.take i0) = ws.take i0 := strikeW_none (fun x hx => by
    obtain ⟨j, hj, e⟩ := List.mem_iff_getElem.1 hx
    rw [List.length_take] at hj
    rw [List.getElem_take] at e
    exact hno j x (by omega) (by rw [List.getElem?_eq_getElem (by omega), e]))
  have hst1 : strikeW nx (ws.take (i0 + 1)) = ws.take i0 := by rw [strikeW_hit hx0 he0, hst0]
  have hl0 : (ws.take i0).length = i0 := by rw [List.length_take]; have := HM.out; omega
  have HD0 := Lib.hid (show DelAt w w1 g c nx (i0 + 1) ws from by
    have eb := hb1.block g hg.2
    refine ⟨⟨cur, eb.trans HBLK.out, HCUR.out⟩, ?_, fun q x hq hx => ?_, ⟨hb1.os, hb1.tape, hb1.output, hb1.size, fun i hi _ => hb1.block i hi⟩⟩
    · rw [hst1]
      intro j v hv
      have hj : j < (wsC (ws.take i0)).length := (List.getElem?_eq_some_iff.1 hv).1
      have hsp : wsC ws = wsC (ws.take i0) ++ wsC (ws.drop i0) := by unfold wsC; rw [← List.flatMap_append, List.take_append_drop]
      have h2 := HO.out.cells (g := g) rfl j v (by rw [hsp, List.getElem?_append_left hj]; exact hv)
      rw [Go.WideShapes.add_plain] at h2
      exact (World.cell?_of_block (w := w) (a := ⟨g, 0 + j, none⟩) eb).trans h2
    · intro j v hv
      have h2 := HO.out.cells (g := g) rfl _ _ (wsC_at HS.out hx j v hv)
      rw [Go.WideShapes.add_plain, Nat.zero_add] at h2
      exact (World.cell?_of_block (w := w) (a := ⟨g, q * 341 + j, none⟩) eb).trans h2)
  have HL1 := Lib.hid (show (strikeW nx (ws.take (i0 + 1))).length = i0 by rw [hst1, hl0])
  have hz1 := hb1.size
  clear hst0 hst1 hl0 hno hx0 he0 hb1 HC HO HBLK HCUR
  go_wp2_with fail
  go_loopw [5, 6] (fun i j wr => DelRel w g c nx m ws i j wr) (fun _ j _ => m - (intOf j).toNat)
  case atStart => exact ⟨i0 + 1, by omega, by rw [HL1.out]; omega, by go_num, by rw [HL1.out], HD0.out⟩
  case round =>
    obtain ⟨k, hk, hlen, rfl, rfl, hd⟩ := hrel
    obtain ⟨q, hq⟩ : ∃ q, (strikeW nx (ws.take k)).length = q := ⟨_, rfl⟩
    rw [hq] at hlen ⊢
    have HQ := Lib.hid hq
    have HD := Lib.hid hd
    have hgr : g < wr.heap.size := by have := hd.upd.size; omega
    have hXr : X < wr.heap.size := by have := hd.upd.size; omega
    have HcX := Lib.hid (show wr.cell? ⟨X, 0, none⟩ = some (.int .i64 nx) from (World.cell?_of_block (w := w) (a := ⟨X, 0, none⟩) (hd.upd.block X hX hXg)).trans HX.out)
    clear hd hq HD0 HL1 hz1 hne1
    by_cases hlt : k < m
    · obtain ⟨x, hx⟩ : ∃ x, ws[k]? = some x := ⟨_, List.getElem?_eq_getElem (by have := HM.out; omega)⟩
      have hxm : x ∈ ws := List.mem_of_getElem? hx
      have hkm : (k : Int) < (m : Int) := by omega
      have hkc : k < c := by omega
      have hlenx := wrC_len (HS.out x hxm)
      have HRG := Lib.hid (HD.out.rest k x (Nat.le_refl _) hx)
      have HI := Lib.hid (show (Try.prog.info? tWt).map (·.size) = some (wrC x).length by rw [hlenx]; exact wt_info)
      have HIa := Lib.hid (show (Try.prog.info? tWt).map (·.size) = some (wrC x).toArray.size by rw [List.size_toArray, hlenx]; exact wt_info)
      have HO1 := Lib.hid (all_oneCell_toArray (wrC_one x))
      have hz : Try.zeroCells106.size = 341 := by kernel_rfl
      have hth : (wr.alloc (.cells Try.zeroCells106 tWt)).there wr.heap.size 0 (wrC x).toArray.size := fun j hj => by
        rw [List.size_toArray, hlenx] at hj
        refine ⟨?_, (Blk.new wr tWt _).free _⟩
        rw [(Blk.new wr tWt _).cell, Array.getElem?_eq_getElem (by omega)]
        rfl
      have hb2 : Below wr.heap.size wr ((wr.alloc (.cells Try.zeroCells106 tWt)).setCells wr.heap.size 0 (wrC x)) := below_cells (Nat.le_refl _) _ _ _ ((Below.refl _ _).alloc (Nat.le_refl _) _)
      have hr2 := World.rangeAt_setCells_same (wr.alloc (.cells Try.zeroCells106 tWt)) wr.heap.size 0 (wrC x) (by rw [List.size_toArray] at hth; exact hth)
      have hs2 : wr.heap.size < ((wr.alloc (.cells Try.zeroCells106 tWt)).setCells wr.heap.size 0 (wrC x)).heap.size := World.block_lt_of_cell? _ _ (hr2 0 _ (List.getElem?_eq_getElem (by omega)))
      have HTH := Lib.hid hth
      have HR2 := Lib.hid hr2
      have HB2 := Lib.hid hb2
      have HD2 := Lib.hid (HD.out.below hb2)
      have HcX2 := Lib.hid ((hb2.cell (p := ⟨X, 0, none⟩) hXr).trans HcX.out)
      have HXX := Lib.hid hx
      have HLX := Lib.hid hlenx
      clear hth hr2 hb2 hz hlenx hx hxm HcX HD
      go_wp2_with fail
      refine wp_load_mid tWt (.tmp 24) rfl g (k * 341) rfl _ _ HRG.out Try.underlying106 rfl HI.out ?_
      go_wp2_with (refine wpList_store_mid rfl tWt (.tmp 7) (.tmp 25) rfl wr.heap.size 0 (wrC x).toArray rfl rfl HTH.out HIa.out HO1.out ?_)
      clear HTH HRG
      try rw [List.toList_toArray]
      generalize (wr.alloc (.cells Try.zeroCells106 tWt)).setCells wr.heap.size 0 (wrC x) = w2 at *
      refine wp_load_mid tWt (.tmp 7) rfl wr.heap.size 0 rfl _ _ HR2.out Try.underlying106 rfl HI.out ?_
      have hX2 : X < w2.heap.size := by omega
      by_cases hh : x.1 = nx
      · have HC := Lib.hid (bit_hit x X nx w2 HcX2.out hX2 hh)
        have HH := Lib.hid hh
        clear hh hX2
        have HN := Lib.hid (strikeW_hit (nx := nx) HXX.out HH.out)
        generalize (wrC x).toArray = csx at *
        go_wp2_with (go_at_call 89; refine HC.out.mono ?_; rintro e w3 ⟨rfl, hb3⟩; have HD3 := Lib.hid ((HD2.out.below hb3).hit HXX.out HH.out); clear hb3)
        go_roundw
        case rel => exact ⟨k + 1, by omega, by rw [HN.out, HQ.out]; omega, by go_num, by rw [HN.out, HQ.out], HD3.out⟩
        case measure => simp [intOf]; omega
      · have HC := Lib.hid (bit_any x X nx w2 HcX2.out hX2 hh)
        have HH := Lib.hid hh
        clear hh hX2
        have HN := Lib.hid (show (strikeW nx (ws.take (k + 1))).length = q + 1 by rw [strikeW_miss HXX.out HH.out, List.length_append, HQ.out]; rfl)
        obtain ⟨csx, hcsx⟩ : ∃ csx, (wrC x).toArray = csx := ⟨_, rfl⟩
        rw [hcsx] at HC HIa HO1 ⊢
        have HCS := Lib.hid hcsx
        clear hcsx
        have hqi : (q : Int) < (m : Int) := by omega
        go_wp2_with fail
        refine HC.out.mono ?_
        rintro e w3 ⟨rfl, hb3⟩
        have hd3 := HD2.out.below hb3
        have hr3 : w3.rangeAt wr.heap.size 0 (wrC x) := rangeAt_block HR2.out (hb3.block _ hs2)
        have HD4 := Lib.hid (show DelAt w (w3.setCells g (q * 341) (wrC x)) g c nx (k + 1) ws from by
          have := hd3.miss HS.out HXX.out HH.out (by rw [HQ.out]; exact hlen) hkc
          rwa [HQ.out] at this)
        have HT3 := Lib.hid (show w3.there g (q * 341) csx.size from by
          rw [← HCS.out, List.size_toArray, HLX.out]
          have := Nat.mul_le_mul_right 341 (show q + 1 ≤ c by omega)
          exact hd3.there (by omega))
        have HR3 := Lib.hid hr3
        clear hd3 hr3 hb3 HR2 HB2 HD2 HcX2
        go_wp2_with fail
        refine wp_load_mid tWt (.tmp 7) rfl wr.heap.size 0 rfl _ _ HR3.out Try.underlying106 rfl HI.out ?_
        rw [HCS.out]
        go_wp2_with (refine wpList_store_mid rfl tWt (.tmp 33) (.tmp 32) rfl g (q * 341) csx rfl rfl HT3.out HIa.out HO1.out ?_)
        go_roundw
        case rel => exact ⟨k + 1, by omega, by rw [HN.out]; omega, by go_num, by rw [HN.out]; go_num, by rw [← HCS.out]; exact HD4.out⟩
        case measure => simp [intOf]; omega
    · obtain rfl : k = m := by omega
      have hkz : decide ((k : Int) < (k : Int)) = false := decide_eq_false (by omega)
      have hkq := Nat.mul_le_mul_right 341 hmc
      have hkq2 : q * 341 + (k - q) * 341 = k * 341 := by rw [← Nat.add_mul]; congr 1; omega
      obtain ⟨cs, _, hcl⟩ := run_clear_wide (P := Try.prog) wr 108 tWt wtZ Try.underlying108 wt_zeroV (by intro v hv; exact wrC_one (0, ⟨Array.replicate 340 0⟩) v (by have hw : wtZ.cells = (wrC (0, ⟨Array.replicate 340 0⟩)).toArray := rfl; rw [hw] at hv; simpa using hv)) g (q * 341) (k - q) (c - q) (by omega) (HD.out.there (by
        rw [show wtZ.cells.size = 341 from by kernel_rfl]; omega))
      have hd5 := HD.out.wiped (cs := cs) HM.out HS.out HQ.out
      have HOW := Lib.hid (hd5.own HM.out hbg HCM.out hmc HS.out)
      have HUP := Lib.hid hd5.upd
      have HLW := Lib.hid (show (strikeW nx ws).length = q by rw [← HQ.out, List.take_of_length_le (by rw [HM.out]; omega)])
      clear hd5
      have hqk : (q : Int) < (k : Int) := by omega
      have hqc : q < c := by omega
      clear hkq hkq2
      go_wp2
      go_ret
      exact ⟨by rw [HLW.out]; rfl, HOW.out, HUP.out.mono (fun h _ e => by rw [e]; rfl)⟩
end Go.Proofs.Ytgkenknplepmeaa
