/-
  WALK: strings.makeGenericReplacer at the four keys of expand.Auto.
-/
import Derived.Test.YtlkpbpecgdphaaaGreatDoorTrieB
import Derived.Test.YtlkpbpecgdphaaaGreatDoorTexts
import Derived.Deep.MidRow
import Derived.Deep.DeepCutAuto
namespace Go.Proofs.YtlkpbpecgdphaaaGreatDoor
open Go.RowKit

def keys4 (v0 v1 v2 v3 : ByteArray) : List ByteArray := [⟨#[36, 64]⟩, v0, ⟨#[36, 60]⟩, v1, ⟨#[36, 94]⟩, v2, ⟨#[36, 42]⟩, v3]
/-- The keys' letters in order. -/
def sq : List Nat := [36, 64, 36, 60, 36, 94, 36, 42]
theorem keys4_even (v0 v1 v2 v3 : ByteArray) (k : Nat) (hk : k < 4) : ∃ x : ByteArray, (keys4 v0 v1 v2 v3)[2 * k]? = some x ∧ x.size = 2 ∧ ∀ j (h : j < x.size), sq[2 * k + j]? = some (x[j].toNat) := by
  rcases k with _ | _ | _ | _ | k
  · exact ⟨_, rfl, rfl, fun j h => by rcases j with _ | _ | j; rfl; rfl; exact absurd h (by show ¬ j + 2 < 2; omega)⟩
  · exact ⟨_, rfl, rfl, fun j h => by rcases j with _ | _ | j; rfl; rfl; exact absurd h (by show ¬ j + 2 < 2; omega)⟩
  · exact ⟨_, rfl, rfl, fun j h => by rcases j with _ | _ | j; rfl; rfl; exact absurd h (by show ¬ j + 2 < 2; omega)⟩
  · exact ⟨_, rfl, rfl, fun j h => by rcases j with _ | _ | j; rfl; rfl; exact absurd h (by show ¬ j + 2 < 2; omega)⟩
  · omega
def mark (L : List Nat) (x : Nat) : Int := if x ∈ L then 1 else 0
def upm (m : Nat → Int) (x : Nat) (y : Int) : Nat → Int := fun z => if z = x then y else m z
theorem mark_step {n c : Nat} (h : sq[n]? = some c) : upm (mark (sq.take n)) c 1 = mark (sq.take (n + 1)) := by
  funext z
  unfold upm mark
  rw [List.take_add_one, h]
  by_cases e : z = c
  · simp [e]
  · simp [e]
def mC (m : Nat → Int) : List Value := (List.range 256).map (fun x => .int .u8 (m x))
def gC (tb : Value) (ts : Int) (m : Nat → Int) : Array Value := (noS :: .int .i64 0 :: noS :: noP :: tb :: .int .i64 ts :: mC m).toArray
abbrev tG : TypeId := 292
theorem mC_len (m : Nat → Int) : (mC m).length = 256 := by simp [mC]
theorem mC_at (m : Nat → Int) (x : Nat) (h : x < 256) : (mC m)[x]? = some (.int .u8 (m x)) := by
  unfold mC
  rw [List.getElem?_map, List.getElem?_range h]
  rfl
theorem gC_at (tb : Value) (ts : Int) (m : Nat → Int) (x : Nat) (h : x < 256) : (gC tb ts m)[6 + x]? = some (.int .u8 (m x)) := by
  unfold gC
  rw [List.getElem?_toArray, Nat.add_comm]
  exact mC_at m x h
theorem gC_2 (tb : Value) (ts : Int) (m : Nat → Int) : (gC tb ts m)[2]? = some noS := by unfold gC; rw [List.getElem?_toArray]; rfl
theorem gC_4 (tb : Value) (ts : Int) (m : Nat → Int) : (gC tb ts m)[4]? = some tb := by unfold gC; rw [List.getElem?_toArray]; rfl
theorem gC_5 (tb : Value) (ts : Int) (m : Nat → Int) : (gC tb ts m)[5]? = some (.int .i64 ts) := by unfold gC; rw [List.getElem?_toArray]; rfl
theorem gC_1 (tb : Value) (ts : Int) (m : Nat → Int) : (gC tb ts m)[1]? = some (.int .i64 0) := by unfold gC; rw [List.getElem?_toArray]; rfl
theorem gC_size (tb : Value) (ts : Int) (m : Nat → Int) : (gC tb ts m).size = 262 := by simp [gC, mC_len]
theorem mC_set (m : Nat → Int) (x : Nat) (y : Int) (h : x < 256) : (mC m).set x (.int .u8 y) = mC (upm m x y) := by
  apply List.ext_getElem?
  intro i
  rw [List.getElem?_set]
  by_cases hi : i < 256
  · rw [mC_at _ _ hi, mC_at _ _ hi, mC_len]
    unfold upm
    by_cases e : x = i
    · simp [e, hi]
    · rw [if_neg e, if_neg (fun h => e h.symm)]
  · have n1 : (mC m)[i]? = none := List.getElem?_eq_none (by rw [mC_len]; omega)
    have n2 : (mC (upm m x y))[i]? = none := List.getElem?_eq_none (by rw [mC_len]; omega)
    rw [n1, n2, mC_len]
    simp
    omega
theorem gC_set (tb : Value) (ts : Int) (m : Nat → Int) (x : Nat) (y : Int) (h : x < 256) : (gC tb ts m).setIfInBounds (6 + x) (.int .u8 y) = gC tb ts (upm m x y) := by
  unfold gC
  rw [List.setIfInBounds_toArray, ← mC_set m x y h, Nat.add_comm]
  rfl
theorem gC_ts (tb : Value) (ts ts' : Int) (m : Nat → Int) : (gC tb ts m).setIfInBounds 5 (.int .i64 ts') = gC tb ts' m := by
  unfold gC
  rw [List.setIfInBounds_toArray]
  rfl
theorem gC_tb (tb tb' : Value) (ts : Int) (m : Nat → Int) : (gC tb ts m).setIfInBounds 4 tb' = gC tb' ts m := by
  unfold gC
  rw [List.setIfInBounds_toArray]
  rfl
theorem gen_zero : Tryz.zeroCells292 = gC noT 0 (mark []) := by kernel_rfl
/-- How many are marked below i. -/
def cnt (m : Nat → Int) : Nat → Int
  | 0 => 0
  | i + 1 => cnt m i + m i
/-- The mapping, made up to i. -/
def mp (m : Nat → Int) (i x : Nat) : Int := if x < i then (if m x = 0 then 5 else cnt m x) else m x
theorem mp_step (m : Nat → Int) (i : Nat) : upm (mp m i) i (if m i = 0 then 5 else cnt m i) = mp m (i + 1) := by
  funext z
  unfold upm mp
  by_cases e : z = i
  · subst e; simp
  · rw [if_neg e]
    by_cases h : z < i
    · simp only [if_pos h, if_pos (show z < i + 1 by omega)]
    · simp only [if_neg h, if_neg (show ¬ z < i + 1 by omega)]
theorem mp_zero (m : Nat → Int) : mp m 0 = m := by funext z; simp [mp]
theorem cnt_sq : cnt (mark sq) 256 = 5 := by decide +kernel
theorem mark_01 (L : List Nat) (x : Nat) : mark L x = 0 ∨ mark L x = 1 := by unfold mark; split; exact .inr rfl; exact .inl rfl
theorem cnt_mono (L : List Nat) (i d : Nat) : 0 ≤ cnt (mark L) i ∧ cnt (mark L) i ≤ cnt (mark L) (i + d) := by
  constructor
  · induction i with
    | zero => exact Int.le_refl _
    | succ i ih => show 0 ≤ cnt (mark L) i + mark L i; rcases mark_01 L i with h | h <;> omega
  · induction d with
    | zero => exact Int.le_refl _
    | succ d ih => show cnt (mark L) i ≤ cnt (mark L) (i + d) + mark L (i + d); rcases mark_01 L (i + d) with h | h <;> omega
theorem cnt_le (i : Nat) (h : i ≤ 256) : 0 ≤ cnt (mark sq) i ∧ cnt (mark sq) i ≤ 5 := by
  have := cnt_mono sq i (256 - i)
  rw [show i + (256 - i) = 256 by omega, cnt_sq] at this
  exact this
/-- What the mapping comes to. -/
abbrev mp5 : Nat → Int := mp (mark sq) 256
theorem mp5_36 : mp5 36 = 0 ∧ mp5 42 = 1 ∧ mp5 60 = 2 ∧ mp5 64 = 3 ∧ mp5 94 = 4 := by decide +kernel
theorem mp5_other (x : Nat) (h : x < 256) (hn : x ∉ sq) : mp5 x = 5 := by unfold mp5 mp mark; rw [if_pos h, if_neg hn]; rfl

theorem run_index_arr (w : World) (cs : Array Value) (j : Nat) (y : Int) (hj : j < 256) (hv : cs[j]? = some (.int .u8 y)) : (Instr.index 240 (.agg cs) (.int .i64 j)).run Tryz.prog w = .ok (.int .u8 y) w := by
  have h0 : (0 : Int) ≤ (j : Int) ∧ (j : Int) < (256 : Int) := by omega
  have hs : (sizeOf 5).run Tryz.prog w = .ok 1 w := by kernel_rfl
  have ha : (isAgg 5).run Tryz.prog w = .ok false w := by kernel_rfl
  simp [Instr.index, run_underlying Tryz.underlying240, asIntOf, h0, hs, part, hv, go_sem]
  intro h
  omega

/-- Where the marking stands: 2 k + j letters on. -/
structure MkSt (w wr : World) (n : Nat) : Prop where
  blk : Blk wr w.heap.size tG (gC noT 0 (mark (sq.take n)))
  size : wr.heap.size = w.heap.size + 1
  upd : Upd w wr (fun _ => False)
theorem MkSt.step {w wr : World} {n c : Nat} (h : MkSt w wr n) (hc : sq[n]? = some c) (hl : c < 256) : MkSt w (wr.setCell ⟨w.heap.size, 6 + c, none⟩ (.int .u8 1)).drew (n + 1) :=
  ⟨by have := h.blk.set (6 + c) (.int .u8 1); rw [gC_set _ _ _ _ _ hl, mark_step hc] at this; exact this, by rw [← h.size]; simp [World.setCell], (h.upd.set (.inl (Nat.le_refl _)) _).drew⟩
/-- Where a later loop stands. -/
structure GnSt (w wr : World) (ts : Int) (m : Nat → Int) : Prop where
  blk : Blk wr w.heap.size tG (gC noT ts m)
  size : wr.heap.size = w.heap.size + 1
  upd : Upd w wr (fun _ => False)
def TrieSt (w : World) (G : Nat) (v0 v1 v2 v3 : ByteArray) : Nat → Prop
  | 0 => w.heap.size = G + 2 ∧ Blk w (G + 1) tP #[noP, noP, noP, noP, noP]
  | 1 => w.heap.size = G + 4 ∧ Blk w (G + 1) tP #[ptr (G + 2), noP, noP, noP, noP] ∧ Blk w (G + 2) tN #[noS, .int .i64 0, .string ⟨#[64]⟩, ptr (G + 3), noT] ∧ Blk w (G + 3) tN (leaf v0 8)
  | 2 => w.heap.size = G + 6 ∧ Blk w (G + 1) tP #[ptr (G + 2), noP, noP, noP, noP] ∧ Blk w (G + 2) tN #[noS, .int .i64 0, noS, noP, tab (G + 5)] ∧ Blk w (G + 3) tN (leaf v0 8) ∧ Blk w (G + 4) tN (leaf v1 6) ∧ Blk w (G + 5) tP #[noP, noP, ptr (G + 4), ptr (G + 3), noP]
  | 3 => w.heap.size = G + 7 ∧ Blk w (G + 1) tP #[ptr (G + 2), noP, noP, noP, noP] ∧ Blk w (G + 2) tN #[noS, .int .i64 0, noS, noP, tab (G + 5)] ∧ Blk w (G + 3) tN (leaf v0 8) ∧ Blk w (G + 4) tN (leaf v1 6) ∧ Blk w (G + 5) tP #[noP, noP, ptr (G + 4), ptr (G + 3), ptr (G + 6)] ∧ Blk w (G + 6) tN (leaf v2 4)
  | 4 => w.heap.size = G + 8 ∧ Blk w (G + 1) tP #[ptr (G + 2), noP, noP, noP, noP] ∧ Blk w (G + 2) tN #[noS, .int .i64 0, noS, noP, tab (G + 5)] ∧ Blk w (G + 3) tN (leaf v0 8) ∧ Blk w (G + 4) tN (leaf v1 6) ∧ Blk w (G + 5) tP #[noP, ptr (G + 7), ptr (G + 4), ptr (G + 3), ptr (G + 6)] ∧ Blk w (G + 6) tN (leaf v2 4) ∧ Blk w (G + 7) tN (leaf v3 2)
  | _ => False
/-- The replacer, k keys on. -/
structure AdSt (w wr : World) (v0 v1 v2 v3 : ByteArray) (k : Nat) : Prop where
  gen : Blk wr w.heap.size tG (gC (tab (w.heap.size + 1)) 5 mp5)
  upd : Upd w wr (fun _ => False)
  st : TrieSt wr w.heap.size v0 v1 v2 v3 k
section
variable {w wr : World} {v0 v1 v2 v3 : ByteArray} {k : Nat}
theorem AdSt.c2 (h : AdSt w wr v0 v1 v2 v3 k) : wr.cell? ⟨w.heap.size, 2, none⟩ = some noS := (h.gen.cell 2).trans (gC_2 _ _ _)
theorem AdSt.c4 (h : AdSt w wr v0 v1 v2 v3 k) : wr.cell? ⟨w.heap.size, 4, none⟩ = some (tab (w.heap.size + 1)) := (h.gen.cell 4).trans (gC_4 _ _ _)
theorem AdSt.c5 (h : AdSt w wr v0 v1 v2 v3 k) : wr.cell? ⟨w.heap.size, 5, none⟩ = some (.int .i64 5) := (h.gen.cell 5).trans (gC_5 _ _ _)
theorem AdSt.at_ (h : AdSt w wr v0 v1 v2 v3 k) (x : Nat) (hx : x < 256) : wr.cell? ⟨w.heap.size, 6 + x, none⟩ = some (.int .u8 (mp5 x)) := (h.gen.cell _).trans (gC_at _ _ _ _ hx)
theorem AdSt.c42 (h : AdSt w wr v0 v1 v2 v3 k) : wr.cell? ⟨w.heap.size, 42, none⟩ = some (.int .u8 0) := by have := h.at_ 36 (by decide); rw [mp5_36.1] at this; exact this
theorem AdSt.c48 (h : AdSt w wr v0 v1 v2 v3 k) : wr.cell? ⟨w.heap.size, 48, none⟩ = some (.int .u8 1) := by have := h.at_ 42 (by decide); rw [mp5_36.2.1] at this; exact this
theorem AdSt.c66 (h : AdSt w wr v0 v1 v2 v3 k) : wr.cell? ⟨w.heap.size, 66, none⟩ = some (.int .u8 2) := by have := h.at_ 60 (by decide); rw [mp5_36.2.2.1] at this; exact this
theorem AdSt.c70 (h : AdSt w wr v0 v1 v2 v3 k) : wr.cell? ⟨w.heap.size, 70, none⟩ = some (.int .u8 3) := by have := h.at_ 64 (by decide); rw [mp5_36.2.2.2.1] at this; exact this
theorem AdSt.c100 (h : AdSt w wr v0 v1 v2 v3 k) : wr.cell? ⟨w.heap.size, 100, none⟩ = some (.int .u8 4) := by have := h.at_ 94 (by decide); rw [mp5_36.2.2.2.2] at this; exact this
end
theorem add_step {w wr : World} {v0 v1 v2 v3 : ByteArray} {k : Nat} (hk : k < 4) (h : AdSt w wr v0 v1 v2 v3 k) {x v : ByteArray} (hx : (keys4 v0 v1 v2 v3)[2 * k]? = some x) (hv : (keys4 v0 v1 v2 v3)[2 * k + 1]? = some v) :
    Calls Tryz.prog 212 #[ptr w.heap.size, .string x, .string v, .int .i64 (8 - (2 * k : Nat)), ptr w.heap.size] wr.drew fun e w' => e = .returned (.tuple #[]) ∧ AdSt w w' v0 v1 v2 v3 (k + 1) := by
  have hu := h.upd
  have hg := h.gen
  rcases k with _ | _ | _ | _ | k
  · obtain rfl : (⟨#[36, 64]⟩ : ByteArray) = x := by simpa [keys4] using hx
    obtain rfl : v0 = v := by simpa [keys4] using hv
    obtain ⟨s, b1⟩ := h.st
    refine (add_root_new w.heap.size (w.heap.size + 1) v0 8 wr.drew h.c2 h.c4 h.c42 b1.drew (by omega) (by show w.heap.size < wr.heap.size; omega)).mono ?_
    rintro e w' ⟨rfl, c1, c2, c3, hs, hup⟩
    have hsz : wr.drew.heap.size = w.heap.size + 2 := s
    rw [hsz] at c1 c2 c3 hs
    exact ⟨rfl, hg.drew.upd hup (by omega), hu.drew.trans hup (fun i hi e => by omega), hs, c1, c2, c3⟩
  · obtain rfl : (⟨#[36, 60]⟩ : ByteArray) = x := by simpa [keys4] using hx
    obtain rfl : v1 = v := by simpa [keys4] using hv
    obtain ⟨s, b1, b2, b3⟩ := h.st
    refine add_root_old w.heap.size (w.heap.size + 1) (w.heap.size + 2) 60 v1 6 wr.drew _ h.c2 h.c4 h.c42 (b1.drew.cell 0) ?_
    refine (add_split (w.heap.size + 2) (w.heap.size + 3) w.heap.size v1 6 wr.drew.drew.drew b2.drew.drew.drew h.c5 h.c70 h.c66 (by omega) (by show w.heap.size < wr.heap.size; omega)).mono ?_
    rintro e w' ⟨rfl, c1, c2, c3, hs, hup⟩
    have hsz : wr.drew.drew.drew.heap.size = w.heap.size + 4 := s
    rw [hsz] at c1 c2 c3 hs
    exact ⟨rfl, hg.drew.drew.drew.upd hup (by omega), hu.drew.drew.drew.trans hup (fun i hi e => by omega), hs, b1.drew.drew.drew.upd hup (by omega), c1, b3.drew.drew.drew.upd hup (by omega), c3, c2⟩
  · obtain rfl : (⟨#[36, 94]⟩ : ByteArray) = x := by simpa [keys4] using hx
    obtain rfl : v2 = v := by simpa [keys4] using hv
    obtain ⟨s, b1, b2, b3, b4, b5⟩ := h.st
    refine add_root_old w.heap.size (w.heap.size + 1) (w.heap.size + 2) 94 v2 4 wr.drew _ h.c2 h.c4 h.c42 (b1.drew.cell 0) ?_
    refine (add_tab94 (w.heap.size + 2) (w.heap.size + 5) w.heap.size v2 4 _ _ _ _ wr.drew.drew.drew b2.drew.drew.drew b5.drew.drew.drew h.c100 (by omega)).mono ?_
    rintro e w' ⟨rfl, c1, c2, hs, hup⟩
    have hsz : wr.drew.drew.drew.heap.size = w.heap.size + 6 := s
    rw [hsz] at c1 c2 hs
    exact ⟨rfl, hg.drew.drew.drew.upd hup (by omega), hu.drew.drew.drew.trans hup (fun i hi e => by omega), hs, b1.drew.drew.drew.upd hup (by omega), b2.drew.drew.drew.upd hup (by omega), b3.drew.drew.drew.upd hup (by omega), b4.drew.drew.drew.upd hup (by omega), c1, c2⟩
  · obtain rfl : (⟨#[36, 42]⟩ : ByteArray) = x := by simpa [keys4] using hx
    obtain rfl : v3 = v := by simpa [keys4] using hv
    obtain ⟨s, b1, b2, b3, b4, b5, b6⟩ := h.st
    refine add_root_old w.heap.size (w.heap.size + 1) (w.heap.size + 2) 42 v3 2 wr.drew _ h.c2 h.c4 h.c42 (b1.drew.cell 0) ?_
    refine (add_tab42 (w.heap.size + 2) (w.heap.size + 5) w.heap.size v3 2 _ _ _ _ wr.drew.drew.drew b2.drew.drew.drew b5.drew.drew.drew h.c48 (by omega)).mono ?_
    rintro e w' ⟨rfl, c1, c2, hs, hup⟩
    have hsz : wr.drew.drew.drew.heap.size = w.heap.size + 7 := s
    rw [hsz] at c1 c2 hs
    exact ⟨rfl, hg.drew.drew.drew.upd hup (by omega), hu.drew.drew.drew.trans hup (fun i hi e => by omega), hs, b1.drew.drew.drew.upd hup (by omega), b2.drew.drew.drew.upd hup (by omega), b3.drew.drew.drew.upd hup (by omega), b4.drew.drew.drew.upd hup (by omega), c1, b6.drew.drew.drew.upd hup (by omega), c2⟩
  · omega

set_option maxRecDepth 100000 in
set_option maxHeartbeats 4000000 in
theorem gen_any (A : Option Addr) (c : Nat) (v0 v1 v2 v3 : ByteArray) (w : World) (h : RdS w w.heap.size A 8 c (keys4 v0 v1 v2 v3)) :
    Calls Tryz.prog 200 #[.slice A 8 c] w fun e w' => e = .returned (ptr w.heap.size) ∧ AdSt w w' v0 v1 v2 v3 4 := by
  have HR := Lib.hid h
  have H0 := Lib.hid (show MkSt w (w.alloc (.cells Tryz.zeroCells292 tG)) 0 by
    rw [gen_zero]
    exact ⟨Blk.new _ _ _, by simp, (Upd.refl w _).alloc _⟩)
  clear h
  go_enter Tryz.func200, Tryz.ntmps200
  go_wp2_with fail
  generalize w.alloc (.cells Tryz.zeroCells292 tG) = w1 at *
  go_loopw [4] (fun i wr => ∃ k : Nat, k ≤ 4 ∧ i = .int .i64 (2 * k : Nat) ∧ MkSt w wr (2 * k)) (fun i _ => 8 - (intOf i).toNat)
  case atStart => exact ⟨0, Nat.zero_le _, rfl, H0.out⟩
  case round =>
    obtain ⟨k, hk, rfl, hst⟩ := hrel
    have HST := Lib.hid hst
    clear hst
    by_cases hlt : k < 4
    · obtain ⟨x, hx, hx2, hxs⟩ := keys4_even v0 v1 v2 v3 k hlt
      obtain ⟨b, off, rfl, hbb, hcx⟩ := HR.out.at_ hx
      have hcx' : wr.cell? ⟨b, off + 2 * k, none⟩ = some (.string x) := (World.cell?_of_block (w := w) (a := ⟨b, off + 2 * k, none⟩) (HST.out.upd.block b hbb (fun h => h))).trans hcx
      have HXS := Lib.hid hxs
      have t1 : ((2 * k : Nat) : Int) < 8 := by omega
      clear hx hcx hxs
      go_wp2
      go_loopw [6] (fun i wr => ∃ j : Nat, j ≤ 2 ∧ i = .int .i64 j ∧ MkSt w wr (2 * k + j)) (fun i _ => 2 - (intOf i).toNat)
      case atStart => exact ⟨0, Nat.zero_le _, rfl, HST.out⟩
      case round =>
        obtain ⟨j, hj, rfl, hst⟩ := hrel
        have HSJ := Lib.hid hst
        clear hst
        by_cases hjl : j < 2
        · have hjx : j < x.size := by omega
          have hc := HXS.out j hjx
          have hb256 : x[j].toNat < 256 := UInt8.toNat_lt _
          have q1 := (HSJ.out.blk.cell (6 + x[j].toNat)).trans (gC_at _ _ _ _ hb256)
          have q1f := HSJ.out.blk.free (6 + x[j].toNat)
          have tz : (j : Int) < (x.size : Int) := by omega
          have tz256 : ((x[j].toNat : Nat) : Int) < 256 := by omega
          have HC := Lib.hid hc
          clear hc
          go_wp2
          go_region
          all_goals go_wp2
          all_goals go_roundw
          case rel => exact ⟨j + 1, by omega, by go_num, HSJ.out.step HC.out hb256⟩
          case measure => simp [intOf]; omega
        · obtain rfl : j = 2 := by omega
          have hz2 : ((x.size : Nat) : Int) = 2 := by omega
          go_wp2
          go_roundw
          case rel => exact ⟨k + 1, by omega, by go_num, HSJ.out⟩
          case measure => simp [intOf]; omega
    · obtain rfl : k = 4 := by omega
      have hrg : wr.rangeAt w.heap.size 6 (mC (mark sq)) := fun j v hv => by
        have hj : j < 256 := by have := (List.getElem?_eq_some_iff.1 hv).1; rwa [mC_len] at this
        rw [mC_at _ _ hj] at hv
        rw [← hv]
        exact (HST.out.blk.cell (6 + j)).trans (gC_at _ _ _ _ hj)
      have HRG := Lib.hid hrg
      clear hrg
      go_wp2
      refine wp_load_mid 240 (.tmp 39) rfl w.heap.size 6 rfl (mC (mark sq)) _ HRG.out Tryz.underlying240 rfl (by rw [mC_len]; kernel_rfl) ?_
      go_wp2
      have hmz : (mC (mark sq)).toArray.size = 256 := by simp [mC_len]
      go_loopw [41] (fun i wr => ∃ j : Nat, j ≤ 256 ∧ i = .int .i64 j ∧ GnSt w wr (cnt (mark sq) j) (mark sq)) (fun i _ => 256 - (intOf i).toNat)
      case atStart => exact ⟨0, Nat.zero_le _, rfl, HST.out.blk, HST.out.size, HST.out.upd⟩
      case round =>
        clear HST HRG
        obtain ⟨j, hj, rfl, hst⟩ := hrel
        have HS := Lib.hid hst
        clear hst
        by_cases hjl : j < 256
        · have tz : (j : Int) < 256 := by omega
          have hix : (mC (mark sq)).toArray[j]? = some (.int .u8 (mark sq j)) := by rw [List.getElem?_toArray]; exact mC_at _ _ hjl
          have q5 : wr.cell? ⟨w.heap.size, 5, none⟩ = some (.int .i64 (cnt (mark sq) j)) := (HS.out.blk.cell 5).trans (gC_5 _ _ _)
          have q5f := HS.out.blk.free 5
          have hri := run_index_arr wr _ j _ hjl hix
          have hm0 : 0 ≤ mark sq j ∧ mark sq j ≤ 1 := by rcases mark_01 sq j with h | h <;> omega
          obtain ⟨hm1, hm2⟩ := hm0
          obtain ⟨hc1, hc2⟩ := cnt_le j (by omega)
          have HNX := Lib.hid (show GnSt w (wr.setCell ⟨w.heap.size, 5, none⟩ (.int .i64 (cnt (mark sq) j + mark sq j))) (cnt (mark sq) (j + 1)) (mark sq) from
            ⟨by have := HS.out.blk.set 5 (.int .i64 (cnt (mark sq) j + mark sq j)); rw [gC_ts] at this; exact this, by rw [← HS.out.size]; simp [World.setCell], HS.out.upd.set (.inl (Nat.le_refl _)) _⟩)
          clear hmz
          go_wp2
          go_roundw
          case rel => exact ⟨j + 1, by omega, by go_num, HNX.out⟩
          case measure => simp [intOf]; omega
        · obtain rfl : j = 256 := by omega
          have hrg : wr.rangeAt w.heap.size 6 (mC (mark sq)) := fun j v hv => by
            have hj : j < 256 := by have := (List.getElem?_eq_some_iff.1 hv).1; rwa [mC_len] at this
            rw [mC_at _ _ hj] at hv
            rw [← hv]
            exact (HS.out.blk.cell (6 + j)).trans (gC_at _ _ _ _ hj)
          have HRG := Lib.hid hrg
          have H3 := Lib.hid (show GnSt w wr 5 (mp (mark sq) 0) by rw [mp_zero, ← cnt_sq]; exact HS.out)
          clear hrg HS
          go_wp2
          refine wp_load_mid 240 (.tmp 56) rfl w.heap.size 6 rfl (mC (mark sq)) _ HRG.out Tryz.underlying240 rfl (by rw [mC_len]; kernel_rfl) ?_
          go_wp2
          go_loopw [9, 58] (fun x i wr => ∃ j : Nat, j ≤ 256 ∧ i = .int .i64 j ∧ x = .int .u8 (cnt (mark sq) j) ∧ GnSt w wr 5 (mp (mark sq) j)) (fun _ i _ => 256 - (intOf i).toNat)
          case atStart => exact ⟨0, Nat.zero_le _, rfl, rfl, H3.out⟩
          case round =>
            clear H3 HRG
            obtain ⟨j, hj, rfl, rfl, hst⟩ := hrel
            have HS := Lib.hid hst
            clear hst
            by_cases hjl : j < 256
            · have tz : (j : Int) < 256 := by omega
              have hix : (mC (mark sq)).toArray[j]? = some (.int .u8 (mark sq j)) := by rw [List.getElem?_toArray]; exact mC_at _ _ hjl
              have hri := run_index_arr wr _ j _ hjl hix
              have q5 : wr.cell? ⟨w.heap.size, 5, none⟩ = some (.int .i64 5) := (HS.out.blk.cell 5).trans (gC_5 _ _ _)
              have qj := (HS.out.blk.cell (6 + j)).trans (gC_at _ _ _ _ hjl)
              have qjf := HS.out.blk.free (6 + j)
              have hm0 : 0 ≤ mark sq j ∧ mark sq j ≤ 1 := by rcases mark_01 sq j with h | h <;> omega
              obtain ⟨hc1, hc2⟩ := cnt_le j (by omega)
              have HNX := Lib.hid (show ∀ y, y = (if mark sq j = 0 then 5 else cnt (mark sq) j) → GnSt w (wr.setCell ⟨w.heap.size, 6 + j, none⟩ (.int .u8 y)) 5 (mp (mark sq) (j + 1)) from fun y e =>
                ⟨by have := HS.out.blk.set (6 + j) (.int .u8 y); rw [gC_set _ _ _ _ _ hjl] at this; rw [← mp_step, ← e]; exact this, by rw [← HS.out.size]; simp [World.setCell], HS.out.upd.set (.inl (Nat.le_refl _)) _⟩)
              clear hix hmz
              rcases mark_01 sq j with h0 | h1
              · have HN := Lib.hid (HNX.out 5 (by rw [if_pos h0]))
                have HC := Lib.hid (show cnt (mark sq) (j + 1) = cnt (mark sq) j by show cnt (mark sq) j + mark sq j = _; omega)
                rw [h0] at hri
                clear hm0 h0 HNX
                go_wp2
                go_region
                all_goals go_wp2
                all_goals go_roundw
                case rel => exact ⟨j + 1, by omega, by go_num, by rw [HC.out], HN.out.blk, HN.out.size, HN.out.upd.drew⟩
                case measure => simp [intOf]; omega
              · have HN := Lib.hid (HNX.out (cnt (mark sq) j) (by rw [h1]; rfl))
                have HC := Lib.hid (show cnt (mark sq) (j + 1) = cnt (mark sq) j + 1 by show cnt (mark sq) j + mark sq j = _; omega)
                rw [h1] at hri
                clear hm0 h1 HNX
                go_wp2
                go_roundw
                case rel => exact ⟨j + 1, by omega, by go_num, by rw [HC.out], HN.out⟩
                case measure => simp [intOf]; omega
            · have hj2 : j = 256 := by omega
              have tzz : decide ((j : Int) < 256) = false := decide_eq_false (by omega)
              have hs2 := HS.out
              have HXJ := Lib.hid (show cnt (mark sq) j = 5 by rw [hj2]; exact cnt_sq)
              rw [hj2] at hs2
              clear hj2
              have HS := Lib.hid hs2
              clear hs2
              have q5 : wr.cell? ⟨w.heap.size, 5, none⟩ = some (.int .i64 5) := (HS.out.blk.cell 5).trans (gC_5 _ _ _)
              have q4 : wr.cell? ⟨w.heap.size, 4, none⟩ = some noT := (HS.out.blk.cell 4).trans (gC_4 _ _ _)
              have q4f := HS.out.blk.free 4
              have r4 : (wr.alloc (.cells #[noP, noP, noP, noP, noP] tP)).cell? ⟨w.heap.size, 4, none⟩ = some noT := ((HS.out.blk.alloc _).cell 4).trans (gC_4 _ _ _)
              have r4f := (HS.out.blk.alloc (.cells #[noP, noP, noP, noP, noP] tP)).free 4
              have hmk := make5
              have hwz : wr.heap.size = w.heap.size + 1 := HS.out.size
              have H5 := Lib.hid (show AdSt w ((wr.setCell ⟨w.heap.size, 4, none⟩ (tab (w.heap.size + 1))).alloc (.cells #[noP, noP, noP, noP, noP] tP)) v0 v1 v2 v3 0 from
                ⟨by have := (HS.out.blk.set 4 (tab (w.heap.size + 1))).alloc (.cells #[noP, noP, noP, noP, noP] tP); rw [gC_tb] at this; exact this,
                 (HS.out.upd.set (.inl (Nat.le_refl _)) _).alloc _, by simp [World.setCell, hwz], by
                   have := Blk.new (wr.setCell ⟨w.heap.size, 4, none⟩ (tab (w.heap.size + 1))) tP #[noP, noP, noP, noP, noP]
                   rwa [show (wr.setCell ⟨w.heap.size, 4, none⟩ (tab (w.heap.size + 1))).heap.size = w.heap.size + 1 by simp [World.setCell, hwz]] at this⟩)
              clear HS
              go_wp2_with fail
              generalize (wr.setCell ⟨w.heap.size, 4, none⟩ (tab (w.heap.size + 1))).alloc (.cells #[noP, noP, noP, noP, noP] tP) = w5 at *
              clear q5 q4 q4f r4 r4f hmk hwz
              go_loopw [12] (fun i wr => ∃ k n : Nat, n = 2 * k ∧ k ≤ 4 ∧ i = .int .i64 n ∧ AdSt w wr v0 v1 v2 v3 k) (fun i _ => 8 - (intOf i).toNat)
              case atStart => exact ⟨0, 0, rfl, Nat.zero_le _, rfl, H5.out⟩
              case round =>
                obtain ⟨k, n, hn, hk, rfl, hst⟩ := hrel
                have HS := Lib.hid hst
                clear hst H5
                by_cases hlt : k < 4
                · obtain ⟨b, off, rfl, hbb, _⟩ := HR.out.at_ (i := 0) (f := ⟨#[36, 64]⟩) rfl
                  have hat0 : ∀ j u, (keys4 v0 v1 v2 v3)[j]? = some u → w.cell? ⟨b, off + j, none⟩ = some (.string u) := fun j u hu => by
                    obtain ⟨b', off', e', _, hc⟩ := HR.out.at_ hu
                    injection e' with e'
                    injection e' with e1 e2
                    subst e1 e2
                    exact hc
                  have hat : ∀ j u, (keys4 v0 v1 v2 v3)[j]? = some u → wr.cell? ⟨b, off + j, none⟩ = some (.string u) := fun j u hu =>
                    (World.cell?_of_block (w := w) (a := ⟨b, off + j, none⟩) (HS.out.upd.block b hbb (fun h => h))).trans (hat0 j u hu)
                  rcases k with _ | _ | _ | _ | k
                  · obtain rfl : n = 0 := hn
                    have HST := Lib.hid (add_step hlt HS.out (x := ⟨#[36, 64]⟩) (v := v0) rfl rfl)
                    have hw1 : IntKind.i64.wrap (((0 : Nat) : Int) + 1) = 1 := by decide
                    have hw2 : IntKind.i64.wrap ((0 : Int) + 1) = 1 := by decide
                    have hw3 : IntKind.i64.wrap 1 = 1 := by decide
                    have hw4 : IntKind.i64.wrap (8 - (0 : Int)) = 8 := by decide
                    have hw5 : IntKind.i64.wrap 8 = 8 := by decide
                    have hcx : wr.cell? ⟨b, off, none⟩ = some (.string ⟨#[36, 64]⟩) := hat 0 _ rfl
                    have HX0 := Lib.hid (show w.cell? ⟨b, off, none⟩ = some (.string ⟨#[36, 64]⟩) from hat0 0 _ rfl)
                    have HV0 := Lib.hid (show w.cell? ⟨b, off + 1, none⟩ = some (.string v0) from hat0 1 _ rfl)
                    have hcv : wr.cell? ⟨b, off + 1, none⟩ = some (.string v0) := hat 1 _ rfl
                    clear hat hat0
                    go_wp2
                    go_region_held3 (fun w' => w'.cell? ⟨b, off, none⟩ = some (.string ⟨#[36, 64]⟩) ∧ w'.cell? ⟨b, off + 1, none⟩ = some (.string v0))
                      (first | exact ⟨hcx6, hcv6⟩ | exact ⟨hcx, hcv⟩)
                      (first
                        | (go_at_call 212; refine HST.out.mono ?_; rintro e w6 ⟨rfl, hq⟩; have HQ := Lib.hid hq; have hcx6 : w6.cell? ⟨b, off, none⟩ = some (.string ⟨#[36, 64]⟩) := (World.cell?_of_block (w := w) (a := ⟨b, off, none⟩) (hq.upd.block b hbb (fun h => h))).trans HX0.out; have hcv6 : w6.cell? ⟨b, off + 1, none⟩ = some (.string v0) := (World.cell?_of_block (w := w) (a := ⟨b, off + 1, none⟩) (hq.upd.block b hbb (fun h => h))).trans HV0.out; clear hq))
                    go_wp2
                    go_roundw
                    case rel => exact ⟨1, 2, rfl, by omega, by go_num, HQ.out⟩
                    case measure => simp [intOf]
                  · obtain rfl : n = 2 := hn
                    have HST := Lib.hid (add_step hlt HS.out (x := ⟨#[36, 60]⟩) (v := v1) rfl rfl)
                    have hw1 : IntKind.i64.wrap (((2 : Nat) : Int) + 1) = 3 := by decide
                    have hw2 : IntKind.i64.wrap ((2 : Int) + 1) = 3 := by decide
                    have hw3 : IntKind.i64.wrap 3 = 3 := by decide
                    have hw4 : IntKind.i64.wrap (8 - (2 : Int)) = 6 := by decide
                    have hw5 : IntKind.i64.wrap 6 = 6 := by decide
                    have hcx : wr.cell? ⟨b, off + 2, none⟩ = some (.string ⟨#[36, 60]⟩) := hat 2 _ rfl
                    have HX0 := Lib.hid (show w.cell? ⟨b, off + 2, none⟩ = some (.string ⟨#[36, 60]⟩) from hat0 2 _ rfl)
                    have HV0 := Lib.hid (show w.cell? ⟨b, off + 3, none⟩ = some (.string v1) from hat0 3 _ rfl)
                    have hcv : wr.cell? ⟨b, off + 3, none⟩ = some (.string v1) := hat 3 _ rfl
                    clear hat hat0
                    go_wp2
                    go_region_held3 (fun w' => w'.cell? ⟨b, off + 2, none⟩ = some (.string ⟨#[36, 60]⟩) ∧ w'.cell? ⟨b, off + 3, none⟩ = some (.string v1))
                      (first | exact ⟨hcx6, hcv6⟩ | exact ⟨hcx, hcv⟩)
                      (first
                        | (go_at_call 212; refine HST.out.mono ?_; rintro e w6 ⟨rfl, hq⟩; have HQ := Lib.hid hq; have hcx6 : w6.cell? ⟨b, off + 2, none⟩ = some (.string ⟨#[36, 60]⟩) := (World.cell?_of_block (w := w) (a := ⟨b, off + 2, none⟩) (hq.upd.block b hbb (fun h => h))).trans HX0.out; have hcv6 : w6.cell? ⟨b, off + 3, none⟩ = some (.string v1) := (World.cell?_of_block (w := w) (a := ⟨b, off + 3, none⟩) (hq.upd.block b hbb (fun h => h))).trans HV0.out; clear hq))
                    go_wp2
                    go_roundw
                    case rel => exact ⟨2, 4, rfl, by omega, by go_num, HQ.out⟩
                    case measure => simp [intOf]
                  · obtain rfl : n = 4 := hn
                    have HST := Lib.hid (add_step hlt HS.out (x := ⟨#[36, 94]⟩) (v := v2) rfl rfl)
                    have hw1 : IntKind.i64.wrap (((4 : Nat) : Int) + 1) = 5 := by decide
                    have hw2 : IntKind.i64.wrap ((4 : Int) + 1) = 5 := by decide
                    have hw3 : IntKind.i64.wrap 5 = 5 := by decide
                    have hw4 : IntKind.i64.wrap (8 - (4 : Int)) = 4 := by decide
                    have hw5 : IntKind.i64.wrap 4 = 4 := by decide
                    have hcx : wr.cell? ⟨b, off + 4, none⟩ = some (.string ⟨#[36, 94]⟩) := hat 4 _ rfl
                    have HX0 := Lib.hid (show w.cell? ⟨b, off + 4, none⟩ = some (.string ⟨#[36, 94]⟩) from hat0 4 _ rfl)
                    have HV0 := Lib.hid (show w.cell? ⟨b, off + 5, none⟩ = some (.string v2) from hat0 5 _ rfl)
                    have hcv : wr.cell? ⟨b, off + 5, none⟩ = some (.string v2) := hat 5 _ rfl
                    clear hat hat0
                    go_wp2
                    go_region_held3 (fun w' => w'.cell? ⟨b, off + 4, none⟩ = some (.string ⟨#[36, 94]⟩) ∧ w'.cell? ⟨b, off + 5, none⟩ = some (.string v2))
                      (first | exact ⟨hcx6, hcv6⟩ | exact ⟨hcx, hcv⟩)
                      (first
                        | (go_at_call 212; refine HST.out.mono ?_; rintro e w6 ⟨rfl, hq⟩; have HQ := Lib.hid hq; have hcx6 : w6.cell? ⟨b, off + 4, none⟩ = some (.string ⟨#[36, 94]⟩) := (World.cell?_of_block (w := w) (a := ⟨b, off + 4, none⟩) (hq.upd.block b hbb (fun h => h))).trans HX0.out; have hcv6 : w6.cell? ⟨b, off + 5, none⟩ = some (.string v2) := (World.cell?_of_block (w := w) (a := ⟨b, off + 5, none⟩) (hq.upd.block b hbb (fun h => h))).trans HV0.out; clear hq))
                    go_wp2
                    go_roundw
                    case rel => exact ⟨3, 6, rfl, by omega, by go_num, HQ.out⟩
                    case measure => simp [intOf]
                  · obtain rfl : n = 6 := hn
                    have HST := Lib.hid (add_step hlt HS.out (x := ⟨#[36, 42]⟩) (v := v3) rfl rfl)
                    have hw1 : IntKind.i64.wrap (((6 : Nat) : Int) + 1) = 7 := by decide
                    have hw2 : IntKind.i64.wrap ((6 : Int) + 1) = 7 := by decide
                    have hw3 : IntKind.i64.wrap 7 = 7 := by decide
                    have hw4 : IntKind.i64.wrap (8 - (6 : Int)) = 2 := by decide
                    have hw5 : IntKind.i64.wrap 2 = 2 := by decide
                    have hcx : wr.cell? ⟨b, off + 6, none⟩ = some (.string ⟨#[36, 42]⟩) := hat 6 _ rfl
                    have HX0 := Lib.hid (show w.cell? ⟨b, off + 6, none⟩ = some (.string ⟨#[36, 42]⟩) from hat0 6 _ rfl)
                    have HV0 := Lib.hid (show w.cell? ⟨b, off + 7, none⟩ = some (.string v3) from hat0 7 _ rfl)
                    have hcv : wr.cell? ⟨b, off + 7, none⟩ = some (.string v3) := hat 7 _ rfl
                    clear hat hat0
                    go_wp2
                    go_region_held3 (fun w' => w'.cell? ⟨b, off + 6, none⟩ = some (.string ⟨#[36, 42]⟩) ∧ w'.cell? ⟨b, off + 7, none⟩ = some (.string v3))
                      (first | exact ⟨hcx6, hcv6⟩ | exact ⟨hcx, hcv⟩)
                      (first
                        | (go_at_call 212; refine HST.out.mono ?_; rintro e w6 ⟨rfl, hq⟩; have HQ := Lib.hid hq; have hcx6 : w6.cell? ⟨b, off + 6, none⟩ = some (.string ⟨#[36, 42]⟩) := (World.cell?_of_block (w := w) (a := ⟨b, off + 6, none⟩) (hq.upd.block b hbb (fun h => h))).trans HX0.out; have hcv6 : w6.cell? ⟨b, off + 7, none⟩ = some (.string v3) := (World.cell?_of_block (w := w) (a := ⟨b, off + 7, none⟩) (hq.upd.block b hbb (fun h => h))).trans HV0.out; clear hq))
                    go_wp2
                    go_roundw
                    case rel => exact ⟨4, 8, rfl, by omega, by go_num, HQ.out⟩
                    case measure => simp [intOf]
                  · omega
                · obtain rfl : k = 4 := by omega
                  subst hn
                  go_wp2
                  go_ret
                  exact ⟨rfl, HS.out⟩
end Go.Proofs.YtlkpbpecgdphaaaGreatDoor
