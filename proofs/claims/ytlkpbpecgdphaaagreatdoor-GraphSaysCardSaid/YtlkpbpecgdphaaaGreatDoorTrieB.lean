/-
  WALKS: strings.trieNode.add, the second letter at a node; the keys at the root.
-/
import Derived.Test.YtlkpbpecgdphaaaGreatDoorRows
import Derived.WalkKit
import Derived.WalkSpells
import Derived.WalkLawsBesides
import Derived.Deep.QuietTactic
import Derived.BigQuiet
import Derived.Deep.LoopGhost
import Derived.Lib.Hide
import Derived.Below
import Derived.Laws.OwnMore
import Derived.Laws.Tables
import Derived.Laws.MakeOwn
import Derived.Deep.AppendLies
import Derived.Deep.Draws
import Derived.Maps.AppendAt
import Derived.OwnWalk
import Derived.WideShapes
import Derived.RegionTactic
import Derived.RangeFuncRecord
import Derived.Deep.RegionHeld3
import Derived.Test.YtlkpbpecgdphaaaGreatDoorSearch
namespace Go.Proofs.YtlkpbpecgdphaaaGreatDoor
open Go.RowKit

/-- What may have turned between two worlds: of the blocks that were there, those of S alone. -/
structure Upd (w w' : World) (S : Nat → Prop) : Prop where
  os : w'.os = w.os
  tape : w'.tape = w.tape
  output : w'.output = w.output
  size : w.heap.size ≤ w'.heap.size
  block : ∀ k, k < w.heap.size → ¬ S k → w'.heap[k]? = w.heap[k]?
theorem Upd.refl (w : World) (S : Nat → Prop) : Upd w w S := ⟨rfl, rfl, rfl, Nat.le_refl _, fun _ _ _ => rfl⟩
theorem Upd.trans {a b c : World} {S S' : Nat → Prop} (h : Upd a b S) (k : Upd b c S') (hs : ∀ i, i < a.heap.size → S' i → S i) : Upd a c S :=
  ⟨k.os.trans h.os, k.tape.trans h.tape, k.output.trans h.output, Nat.le_trans h.size k.size, fun i hi hn => (k.block i (Nat.lt_of_lt_of_le hi h.size) (fun s => hn (hs i hi s))).trans (h.block i hi hn)⟩
theorem Upd.mono {a b : World} {S S' : Nat → Prop} (h : Upd a b S) (hs : ∀ k, k < a.heap.size → S k → S' k) : Upd a b S' :=
  ⟨h.os, h.tape, h.output, h.size, fun k hk hn => h.block k hk (fun s => hn (hs k hk s))⟩
theorem Upd.below {a b : World} {S : Nat → Prop} {B : Nat} (h : Upd a b S) (hB : B ≤ a.heap.size) (hs : ∀ k, S k → B ≤ k) : Below B a b :=
  ⟨h.os, h.tape, h.output, h.size, fun k hk => h.block k (by omega) (fun s => by have := hs k s; omega)⟩
theorem Upd.set {a w : World} {S : Nat → Prop} (h : Upd a w S) {b i : Nat} (hb : a.heap.size ≤ b ∨ S b) (u : Value) : Upd a (w.setCell ⟨b, i, none⟩ u) S :=
  ⟨h.os, h.tape, h.output, by have := h.size; simpa [World.setCell] using this, fun k hk hn => (Below.heap_setCell _ _ _ _ (fun e => by
    rcases hb with hb | hb
    · simp at e; omega
    · exact hn (by rw [show k = b from e]; exact hb))).trans (h.block k hk hn)⟩
theorem Upd.alloc {a w : World} {S : Nat → Prop} (h : Upd a w S) (o : Obj) : Upd a (w.alloc o) S :=
  ⟨h.os, h.tape, h.output, by have := h.size; simp; omega, fun k hk hn => (Below.heap_alloc _ _ _ (Nat.lt_of_lt_of_le hk h.size)).trans (h.block k hk hn)⟩
theorem Upd.drew {a w : World} {S : Nat → Prop} (h : Upd a w S) : Upd a w.drew S := ⟨h.os, h.tape, h.output, h.size, h.block⟩

abbrev ptr (b : Nat) : Value := .pointer (some ⟨b, 0, none⟩)
/-- A block of cells, none of them frozen. -/
def Blk (w : World) (b : Nat) (t : TypeId) (cs : Array Value) : Prop := w.heap[b]? = some (.cells cs t (0, 0))
section
variable {w w' : World} {b : Nat} {t : TypeId} {cs : Array Value}
theorem Blk.cell (h : Blk w b t cs) (i : Nat) : w.cell? ⟨b, i, none⟩ = cs[i]? := by unfold Blk at h; simp [World.cell?, h]
theorem Blk.free (h : Blk w b t cs) (i : Nat) : w.frozen? ⟨b, i, none⟩ = false := by unfold Blk at h; simp [World.frozen?, h]
theorem Blk.lt (h : Blk w b t cs) : b < w.heap.size := (Array.getElem?_eq_some_iff.1 h).1
theorem Blk.set (h : Blk w b t cs) (i : Nat) (u : Value) : Blk (w.setCell ⟨b, i, none⟩ u) b t (cs.setIfInBounds i u) := by
  unfold Blk at h ⊢
  rw [setCell_eq_setRow _ _ _ _ _ _ _ h]
  exact setRow_heap _ _ _ _ _ _ h
theorem Blk.other (h : Blk w b t cs) {k i : Nat} (hk : b ≠ k) (u : Value) : Blk (w.setCell ⟨k, i, none⟩ u) b t cs := (Below.heap_setCell _ _ _ _ hk).trans h
theorem Blk.alloc (h : Blk w b t cs) (o : Obj) : Blk (w.alloc o) b t cs := (Below.heap_alloc _ _ _ h.lt).trans h
theorem Blk.new (w : World) (t : TypeId) (cs : Array Value) : Blk (w.alloc (.cells cs t)) w.heap.size t cs := World.alloc_heap_new _ _
theorem Blk.drew (h : Blk w b t cs) : Blk w.drew b t cs := h
theorem Blk.upd {S : Nat → Prop} (h : Blk w b t cs) (hu : Upd w w' S) (hs : ¬ S b) : Blk w' b t cs := (hu.block b h.lt hs).trans h
end
theorem own_shape {w : World} {B : Nat} {e : TypeId} {z : Nat} {v : Value} {n : Nat} {xs : List Value} (h : w.ownsRow B e z v n xs) : ∃ A c, v = .slice A n c := by
  rcases h.2 with ⟨rfl, rfl⟩ | ⟨g, cap, cur, rfl, _⟩
  · exact ⟨_, _, rfl⟩
  · exact ⟨_, _, rfl⟩
theorem Blk.grown {w w' : World} {b : Nat} {t : TypeId} {cs : Array Value} {row : Option Nat} (h : Blk w b t cs) (hg : w.grownBy w' row) (hn : row ≠ some b) : Blk w' b t cs := (hg.block b h.lt (fun e => hn e.symm)).trans h
end Go.Proofs.YtlkpbpecgdphaaaGreatDoor
namespace Go.Proofs.YtlkpbpecgdphaaaGreatDoor
open Go.RowKit

abbrev noS : Value := .string ⟨#[]⟩
abbrev noP : Value := .pointer none
abbrev noT : Value := .slice none 0 0
abbrev tN : TypeId := 290
abbrev leaf (v : ByteArray) (p : Int) : Array Value := #[.string v, .int .i64 p, noS, noP, noT]

set_option maxRecDepth 100000 in
set_option maxHeartbeats 1600000 in
/-- add, the key come to its end: value and priority are laid. -/
theorem add_empty (b : Nat) (v : ByteArray) (p : Int) (rp x0 x2 x3 x4 : Value) (w : World) (h : Blk w b tN #[x0, .int .i64 0, x2, x3, x4]) :
    Calls Tryz.prog 212 #[ptr b, .string ⟨#[]⟩, .string v, .int .i64 p, rp] w fun e w' => e = .returned (.tuple #[]) ∧ Blk w' b tN #[.string v, .int .i64 p, x2, x3, x4] ∧ w'.heap.size = w.heap.size ∧ Upd w w' (fun k => k = b) := by
  have c0 := h.cell 0
  have c1 := h.cell 1
  have f0 := h.free 0
  have f1 := h.free 1
  simp at c0 c1
  have HB := Lib.hid h
  clear h
  go_enter Tryz.func212, Tryz.ntmps212
  go_wp2
  first | go_end0 | (simp only [Exit.inBlock, Exit.then]; refine bodyPost_ret (results_none rfl _ _ _) rfl ?_) | refine bodyPost_ret (results_none rfl _ _ _) rfl ?_
  exact ⟨rfl, (HB.out.set 0 _).set 1 _, by simp [World.setCell], ((Upd.refl w (fun k => k = b)).set (b := b) (.inr rfl) _).set (b := b) (.inr rfl) _⟩

set_option maxRecDepth 100000 in
set_option maxHeartbeats 1600000 in
/-- add of one letter to an empty node. -/
theorem add_fresh (a : Nat) (c : UInt8) (v : ByteArray) (p : Int) (rp : Value) (w : World) (h : Blk w a tN (leaf ⟨#[]⟩ 0)) :
    Calls Tryz.prog 212 #[ptr a, .string ⟨#[c]⟩, .string v, .int .i64 p, rp] w fun e w' => e = .returned (.tuple #[]) ∧ Blk w' a tN #[noS, .int .i64 0, .string ⟨#[c]⟩, ptr w.heap.size, noT] ∧ Blk w' w.heap.size tN (leaf v p) ∧ w'.heap.size = w.heap.size + 1 ∧ Upd w w' (fun k => k = a) := by
  have c2 := h.cell 2
  have c3 := h.cell 3
  have c4 := h.cell 4
  have f2 := h.free 2
  have f3 := h.free 3
  simp at c2 c3 c4
  have hne : ((⟨#[c]⟩ : ByteArray) == ⟨#[]⟩) = false := by
    apply beq_false_of_ne
    intro e
    have := congrArg ByteArray.size e
    simp [ByteArray.size] at this
  have hlt := h.lt
  have b2 := (h.set 2 (.string ⟨#[c]⟩)).alloc (.cells (leaf ⟨#[]⟩ 0) tN)
  have n2 : Blk ((w.setCell ⟨a, 2, none⟩ (.string ⟨#[c]⟩)).alloc (.cells (leaf ⟨#[]⟩ 0) tN)) w.heap.size tN (leaf ⟨#[]⟩ 0) := by
    have := Blk.new (w.setCell ⟨a, 2, none⟩ (.string ⟨#[c]⟩)) tN (leaf ⟨#[]⟩ 0)
    rwa [show (w.setCell ⟨a, 2, none⟩ (.string ⟨#[c]⟩)).heap.size = w.heap.size by simp [World.setCell]] at this
  have g3 := b2.cell 3
  have g3f := b2.free 3
  have b3 := ((h.set 2 (.string ⟨#[c]⟩)).set 3 (ptr w.heap.size)).alloc (.cells (leaf ⟨#[]⟩ 0) tN)
  have n3 : Blk (((w.setCell ⟨a, 2, none⟩ (.string ⟨#[c]⟩)).setCell ⟨a, 3, none⟩ (ptr w.heap.size)).alloc (.cells (leaf ⟨#[]⟩ 0) tN)) w.heap.size tN (leaf ⟨#[]⟩ 0) := by
    have := Blk.new ((w.setCell ⟨a, 2, none⟩ (.string ⟨#[c]⟩)).setCell ⟨a, 3, none⟩ (ptr w.heap.size)) tN (leaf ⟨#[]⟩ 0)
    rwa [show ((w.setCell ⟨a, 2, none⟩ (.string ⟨#[c]⟩)).setCell ⟨a, 3, none⟩ (ptr w.heap.size)).heap.size = w.heap.size by simp [World.setCell]] at this
  have k3 := b3.cell 3
  have HU := Lib.hid ((((Upd.refl w (fun k => k = a)).set (b := a) (i := 2) (.inr rfl) (.string ⟨#[c]⟩)).set (b := a) (i := 3) (.inr rfl) (ptr w.heap.size)).alloc (.cells (leaf ⟨#[]⟩ 0) tN))
  have HZ := Lib.hid (show (((w.setCell ⟨a, 2, none⟩ (.string ⟨#[c]⟩)).setCell ⟨a, 3, none⟩ (ptr w.heap.size)).alloc (.cells (leaf ⟨#[]⟩ 0) tN)).heap.size = w.heap.size + 1 by simp [World.setCell])
  simp at g3 k3
  have HB := Lib.hid b3
  have HN := Lib.hid n3
  clear h b2 n2 b3 n3
  go_enter Tryz.func212, Tryz.ntmps212
  go_wp2_with fail
  generalize ((w.setCell ⟨a, 2, none⟩ (.string ⟨#[c]⟩)).setCell ⟨a, 3, none⟩ (ptr w.heap.size)).alloc (.cells (leaf ⟨#[]⟩ 0) tN) = w3 at *
  refine (add_empty w.heap.size v p rp _ _ _ _ w3 HN.out).mono ?_
  rintro e w4 ⟨rfl, hb4, hs4, hu4⟩
  have HE := Lib.hid hb4
  have HS := Lib.hid hs4
  have HV := Lib.hid hu4
  clear hb4 hs4 hu4
  go_wp2
  go_end0
  exact ⟨rfl, HB.out.upd HV.out (by omega), HE.out, by rw [HS.out, HZ.out], HU.out.trans HV.out (fun k hk e => by omega)⟩
abbrev tP : TypeId := 287
abbrev tab (T : Nat) : Value := .slice (some ⟨T, 0, none⟩) 5 5

set_option maxRecDepth 100000 in
set_option maxHeartbeats 1600000 in
/-- add of one letter to a node with a table. -/
theorem add_tab94 (a T g : Nat) (v : ByteArray) (p : Int) (x0 x1 x2 x3 : Value) (w : World) (h : Blk w a tN #[noS, .int .i64 0, noS, noP, tab T]) (hT : Blk w T tP #[x0, x1, x2, x3, noP])
    (hg : w.cell? ⟨g, 100, none⟩ = some (.int .u8 4)) (haT : a ≠ T) :
    Calls Tryz.prog 212 #[ptr a, .string ⟨#[94]⟩, .string v, .int .i64 p, ptr g] w fun e w' => e = .returned (.tuple #[]) ∧ Blk w' T tP #[x0, x1, x2, x3, ptr w.heap.size] ∧ Blk w' w.heap.size tN (leaf v p) ∧ w'.heap.size = w.heap.size + 1 ∧ Upd w w' (fun k => k = T) := by
  have c2 := h.cell 2
  have c4 := h.cell 4
  have d4 := hT.cell 4
  have e4 := hT.free 4
  simp at c2 c4 d4
  have hx : (⟨#[94]⟩ : ByteArray).extract 1 1 = ⟨#[]⟩ := rfl
  have hi : (⟨#[94]⟩ : ByteArray)[0].toNat = 94 := rfl
  have p4 := (hT.alloc (.cells (leaf ⟨#[]⟩ 0) tN)).cell 4
  have p4f := (hT.alloc (.cells (leaf ⟨#[]⟩ 0) tN)).free 4
  have hlt := hT.lt
  have bT := ((hT.set 4 (ptr w.heap.size)).alloc (.cells (leaf ⟨#[]⟩ 0) tN)).drew
  have ba := ((h.other (k := T) (i := 4) haT (ptr w.heap.size)).alloc (.cells (leaf ⟨#[]⟩ 0) tN)).drew
  have bn : Blk ((w.setCell ⟨T, 4, none⟩ (ptr w.heap.size)).alloc (.cells (leaf ⟨#[]⟩ 0) tN)).drew w.heap.size tN (leaf ⟨#[]⟩ 0) := by
    have := Blk.new (w.setCell ⟨T, 4, none⟩ (ptr w.heap.size)) tN (leaf ⟨#[]⟩ 0)
    rw [show (w.setCell ⟨T, 4, none⟩ (ptr w.heap.size)).heap.size = w.heap.size by simp [World.setCell]] at this
    exact this.drew
  have s4 := ba.cell 4
  have r4 := bT.cell 4
  have HU := Lib.hid (((((Upd.refl w (fun k => k = T)).set (b := T) (i := 4) (.inr rfl) (ptr w.heap.size)).alloc (.cells (leaf ⟨#[]⟩ 0) tN))).drew)
  have HZ := Lib.hid (show ((w.setCell ⟨T, 4, none⟩ (ptr w.heap.size)).alloc (.cells (leaf ⟨#[]⟩ 0) tN)).drew.heap.size = w.heap.size + 1 by simp [World.setCell])
  simp at p4
  have s4 : ((w.setCell ⟨T, 4, none⟩ (ptr w.heap.size)).alloc (.cells (leaf ⟨#[]⟩ 0) tN)).drew.cell? ⟨a, 4, none⟩ = some (tab T) := s4
  have r4 : ((w.setCell ⟨T, 4, none⟩ (ptr w.heap.size)).alloc (.cells (leaf ⟨#[]⟩ 0) tN)).drew.cell? ⟨T, 4, none⟩ = some (ptr w.heap.size) := r4
  have HT := Lib.hid bT
  have HN := Lib.hid bn
  clear h hT bT ba bn
  go_enter Tryz.func212, Tryz.ntmps212
  go_wp2
  go_region
  all_goals (go_wp2_with fail)
  generalize ((w.setCell ⟨T, 4, none⟩ (ptr w.heap.size)).alloc (.cells (leaf ⟨#[]⟩ 0) tN)).drew = w3 at *
  have HN3 := Lib.hid (HN.out.drew)
  go_region_with
    (first
      | (go_at_call 212; refine (add_empty w.heap.size v p (ptr g) _ _ _ _ w3.drew HN3.out).mono ?_; rintro e w4 ⟨rfl, hb4, hs4, hu4⟩; have HE := Lib.hid hb4; have HS := Lib.hid hs4; have HV := Lib.hid hu4; clear hb4 hs4 hu4))
  all_goals go_wp2
  all_goals go_end0
  all_goals exact ⟨rfl, HT.out.drew.upd HV.out (by omega), HE.out, by rw [HS.out]; exact HZ.out, HU.out.drew.trans HV.out (fun k hk e => by omega)⟩
set_option maxRecDepth 100000 in
set_option maxHeartbeats 1600000 in
/-- add of one letter to a node with a table. -/
theorem add_tab42 (a T g : Nat) (v : ByteArray) (p : Int) (x0 x2 x3 x4 : Value) (w : World) (h : Blk w a tN #[noS, .int .i64 0, noS, noP, tab T]) (hT : Blk w T tP #[x0, noP, x2, x3, x4])
    (hg : w.cell? ⟨g, 48, none⟩ = some (.int .u8 1)) (haT : a ≠ T) :
    Calls Tryz.prog 212 #[ptr a, .string ⟨#[42]⟩, .string v, .int .i64 p, ptr g] w fun e w' => e = .returned (.tuple #[]) ∧ Blk w' T tP #[x0, ptr w.heap.size, x2, x3, x4] ∧ Blk w' w.heap.size tN (leaf v p) ∧ w'.heap.size = w.heap.size + 1 ∧ Upd w w' (fun k => k = T) := by
  have c2 := h.cell 2
  have c4 := h.cell 4
  have d4 := hT.cell 1
  have e4 := hT.free 1
  simp at c2 c4 d4
  have hx : (⟨#[42]⟩ : ByteArray).extract 1 1 = ⟨#[]⟩ := rfl
  have hi : (⟨#[42]⟩ : ByteArray)[0].toNat = 42 := rfl
  have p4 := (hT.alloc (.cells (leaf ⟨#[]⟩ 0) tN)).cell 1
  have p4f := (hT.alloc (.cells (leaf ⟨#[]⟩ 0) tN)).free 1
  have hlt := hT.lt
  have bT := ((hT.set 1 (ptr w.heap.size)).alloc (.cells (leaf ⟨#[]⟩ 0) tN)).drew
  have ba := ((h.other (k := T) (i := 1) haT (ptr w.heap.size)).alloc (.cells (leaf ⟨#[]⟩ 0) tN)).drew
  have bn : Blk ((w.setCell ⟨T, 1, none⟩ (ptr w.heap.size)).alloc (.cells (leaf ⟨#[]⟩ 0) tN)).drew w.heap.size tN (leaf ⟨#[]⟩ 0) := by
    have := Blk.new (w.setCell ⟨T, 1, none⟩ (ptr w.heap.size)) tN (leaf ⟨#[]⟩ 0)
    rw [show (w.setCell ⟨T, 1, none⟩ (ptr w.heap.size)).heap.size = w.heap.size by simp [World.setCell]] at this
    exact this.drew
  have s4 := ba.cell 4
  have r4 := bT.cell 1
  have HU := Lib.hid (((((Upd.refl w (fun k => k = T)).set (b := T) (i := 1) (.inr rfl) (ptr w.heap.size)).alloc (.cells (leaf ⟨#[]⟩ 0) tN))).drew)
  have HZ := Lib.hid (show ((w.setCell ⟨T, 1, none⟩ (ptr w.heap.size)).alloc (.cells (leaf ⟨#[]⟩ 0) tN)).drew.heap.size = w.heap.size + 1 by simp [World.setCell])
  simp at p4
  have s4 : ((w.setCell ⟨T, 1, none⟩ (ptr w.heap.size)).alloc (.cells (leaf ⟨#[]⟩ 0) tN)).drew.cell? ⟨a, 4, none⟩ = some (tab T) := s4
  have r4 : ((w.setCell ⟨T, 1, none⟩ (ptr w.heap.size)).alloc (.cells (leaf ⟨#[]⟩ 0) tN)).drew.cell? ⟨T, 1, none⟩ = some (ptr w.heap.size) := r4
  have HT := Lib.hid bT
  have HN := Lib.hid bn
  clear h hT bT ba bn
  go_enter Tryz.func212, Tryz.ntmps212
  go_wp2
  go_region
  all_goals (go_wp2_with fail)
  generalize ((w.setCell ⟨T, 1, none⟩ (ptr w.heap.size)).alloc (.cells (leaf ⟨#[]⟩ 0) tN)).drew = w3 at *
  have HN3 := Lib.hid (HN.out.drew)
  go_region_with
    (first
      | (go_at_call 212; refine (add_empty w.heap.size v p (ptr g) _ _ _ _ w3.drew HN3.out).mono ?_; rintro e w4 ⟨rfl, hb4, hs4, hu4⟩; have HE := Lib.hid hb4; have HS := Lib.hid hs4; have HV := Lib.hid hu4; clear hb4 hs4 hu4))
  all_goals go_wp2
  all_goals go_end0
  all_goals exact ⟨rfl, HT.out.drew.upd HV.out (by omega), HE.out, by rw [HS.out]; exact HZ.out, HU.out.drew.trans HV.out (fun k hk e => by omega)⟩
end Go.Proofs.YtlkpbpecgdphaaaGreatDoor
namespace Go.Proofs.YtlkpbpecgdphaaaGreatDoor
open Go.RowKit

theorem five : madeCells (Value.pointer none).cells (Int.toNat 5 * Tryz.t287.size) = #[noP, noP, noP, noP, noP] := by
  refine Array.ext (by simp [madeCells, Tryz.t287]) (fun i h1 h2 => ?_)
  have h5 : i < 5 := by simpa using h2
  simp only [madeCells, Array.getElem_map, Array.getElem_range]
  rcases i with _ | _ | _ | _ | _ | i
  · rfl
  · rfl
  · rfl
  · rfl
  · rfl
  · omega
theorem make5 (w : World) : (Instr.makeSlice 288 (.int .i64 5) (.int .i64 5)).run Tryz.prog w = .ok (.slice (some ⟨w.heap.size, 0, none⟩) 5 5) (w.alloc (.cells #[noP, noP, noP, noP, noP] tP)) := by
  have h := run_makeSlice (P := Tryz.prog) w 288 287 Tryz.t287 (.pointer none) Tryz.underlying288 (by kernel_rfl) (by kernel_rfl) .i64 .i64 5 5 (by decide) (by decide) (by decide) (by decide) (by decide)
  rw [show madeCells (Value.pointer none).cells (Int.toNat 5 * Tryz.t287.size) = #[noP, noP, noP, noP, noP] from five] at h
  exact h

set_option maxRecDepth 100000 in
set_option maxHeartbeats 1600000 in
/-- add of a second letter to a node with one: the table is laid. -/
theorem add_split (a B g : Nat) (v : ByteArray) (p : Int) (w : World) (h : Blk w a tN #[noS, .int .i64 0, .string ⟨#[64]⟩, ptr B, noT])
    (h5 : w.cell? ⟨g, 5, none⟩ = some (.int .i64 5)) (h70 : w.cell? ⟨g, 70, none⟩ = some (.int .u8 3)) (h66 : w.cell? ⟨g, 66, none⟩ = some (.int .u8 2)) (hga : g ≠ a) (hg : g < w.heap.size) :
    Calls Tryz.prog 212 #[ptr a, .string ⟨#[60]⟩, .string v, .int .i64 p, ptr g] w fun e w' => e = .returned (.tuple #[]) ∧ Blk w' a tN #[noS, .int .i64 0, noS, noP, tab (w.heap.size + 1)] ∧ Blk w' (w.heap.size + 1) tP #[noP, noP, ptr w.heap.size, ptr B, noP] ∧ Blk w' w.heap.size tN (leaf v p) ∧ w'.heap.size = w.heap.size + 2 ∧ Upd w w' (fun k => k = a) := by
  have c2 := h.cell 2
  have c3 := h.cell 3
  have c4 := h.cell 4
  have f2 := h.free 2
  have f3 := h.free 3
  have f4 := h.free 4
  simp at c2 c3 c4
  have hx : (⟨#[60]⟩ : ByteArray).extract 1 1 = ⟨#[]⟩ := rfl
  have hi : (⟨#[60]⟩ : ByteArray)[0].toNat = 60 := rfl
  have hj : (⟨#[64]⟩ : ByteArray)[0].toNat = 64 := rfl
  have hlt := h.lt
  have HB := Lib.hid h
  clear h
  go_enter Tryz.func212, Tryz.ntmps212
  go_wp2
  go_loop [10] (fun i => i = .int .i64 0) (fun _ => 0)
  case atStart => rfl
  case round =>
    subst hrel
    have hmk := make5
    have A1 := ((((HB.out.set 4 (tab (w.heap.size + 1))).alloc (.cells (leaf ⟨#[]⟩ 0) tN)).alloc (.cells #[noP, noP, noP, noP, noP] tP)).drew)
    have K1 : Blk ((((w.setCell ⟨a, 4, none⟩ (tab (w.heap.size + 1))).alloc (.cells (leaf ⟨#[]⟩ 0) tN)).alloc (.cells #[noP, noP, noP, noP, noP] tP)).drew) w.heap.size tN (leaf ⟨#[]⟩ 0) := by
      have := Blk.new (w.setCell ⟨a, 4, none⟩ (tab (w.heap.size + 1))) tN (leaf ⟨#[]⟩ 0)
      rw [show (w.setCell ⟨a, 4, none⟩ (tab (w.heap.size + 1))).heap.size = w.heap.size by simp [World.setCell]] at this
      exact (this.alloc _).drew
    have T1 : Blk ((((w.setCell ⟨a, 4, none⟩ (tab (w.heap.size + 1))).alloc (.cells (leaf ⟨#[]⟩ 0) tN)).alloc (.cells #[noP, noP, noP, noP, noP] tP)).drew) (w.heap.size + 1) tP #[noP, noP, noP, noP, noP] := by
      have := Blk.new ((w.setCell ⟨a, 4, none⟩ (tab (w.heap.size + 1))).alloc (.cells (leaf ⟨#[]⟩ 0) tN)) tP #[noP, noP, noP, noP, noP]
      rw [show ((w.setCell ⟨a, 4, none⟩ (tab (w.heap.size + 1))).alloc (.cells (leaf ⟨#[]⟩ 0) tN)).heap.size = w.heap.size + 1 by simp [World.setCell]] at this
      exact this.drew
    have U1 := (((((Upd.refl w (fun k => k = a)).set (b := a) (i := 4) (.inr rfl) (tab (w.heap.size + 1))).alloc (.cells (leaf ⟨#[]⟩ 0) tN)).alloc (.cells #[noP, noP, noP, noP, noP] tP)).drew)
    have Z1 : ((((w.setCell ⟨a, 4, none⟩ (tab (w.heap.size + 1))).alloc (.cells (leaf ⟨#[]⟩ 0) tN)).alloc (.cells #[noP, noP, noP, noP, noP] tP)).drew).heap.size = w.heap.size + 2 := by simp [World.setCell]
    have G1 := U1.block g hg (by omega)
    have g70 : ((((w.setCell ⟨a, 4, none⟩ (tab (w.heap.size + 1))).alloc (.cells (leaf ⟨#[]⟩ 0) tN)).alloc (.cells #[noP, noP, noP, noP, noP] tP)).drew).cell? ⟨g, 70, none⟩ = some (.int .u8 3) := (World.cell?_of_block (w := w) (a := ⟨g, 70, none⟩) G1).trans h70
    have g66 : ((((w.setCell ⟨a, 4, none⟩ (tab (w.heap.size + 1))).alloc (.cells (leaf ⟨#[]⟩ 0) tN)).alloc (.cells #[noP, noP, noP, noP, noP] tP)).drew).cell? ⟨g, 66, none⟩ = some (.int .u8 2) := (World.cell?_of_block (w := w) (a := ⟨g, 66, none⟩) G1).trans h66
    have HA1 := Lib.hid A1
    have HK1 := Lib.hid K1
    have HT1 := Lib.hid T1
    have HU1 := Lib.hid U1
    have HZ1 := Lib.hid Z1
    clear A1 K1 T1 U1 Z1 G1
    go_wp2
    go_region
    all_goals go_wp2
    generalize ((((w.setCell ⟨a, 4, none⟩ (tab (w.heap.size + 1))).alloc (.cells (leaf ⟨#[]⟩ 0) tN)).alloc (.cells #[noP, noP, noP, noP, noP] tP)).drew) = w1 at *
    clear c2 c3 c4 f2 f3 f4 h5 h70 h66 hmk
    have a4 : w1.cell? ⟨a, 4, none⟩ = some (tab (w.heap.size + 1)) := HA1.out.cell 4
    have a2 : w1.cell? ⟨a, 2, none⟩ = some (.string ⟨#[64]⟩) := HA1.out.cell 2
    have t3 : w1.cell? ⟨w.heap.size + 1, 3, none⟩ = some noP := HT1.out.cell 3
    have t3f := HT1.out.free 3
    have hne : a ≠ w.heap.size + 1 := by omega
    have hgn : g ≠ w.heap.size + 1 := by omega
    have HA2 := Lib.hid ((HA1.out.other (k := w.heap.size + 1) (i := 3) hne (ptr B)).drew)
    have HT2 := Lib.hid ((HT1.out.set 3 (ptr B)).drew)
    have HK2 := Lib.hid ((HK1.out.other (k := w.heap.size + 1) (i := 3) (by omega) (ptr B)).drew)
    have HU2 := Lib.hid ((HU1.out.set (b := w.heap.size + 1) (i := 3) (.inl (by omega)) (ptr B)).drew)
    have HZ2 := Lib.hid (show (w1.setCell ⟨w.heap.size + 1, 3, none⟩ (ptr B)).drew.heap.size = w.heap.size + 2 by rw [← HZ1.out]; simp [World.setCell])
    have g66' : (w1.setCell ⟨w.heap.size + 1, 3, none⟩ (ptr B)).drew.cell? ⟨g, 66, none⟩ = some (.int .u8 2) := (World.cell?_setCell_other _ ⟨w.heap.size + 1, 3, none⟩ ⟨g, 66, none⟩ _ (by intro e; injection e with e; omega)).trans g66
    go_region
    all_goals (go_wp2_with fail)
    generalize (w1.setCell ⟨w.heap.size + 1, 3, none⟩ (ptr B)).drew = w2 at *
    clear a4 a2 t3 t3f g70 g66
    have a4 : w2.cell? ⟨a, 4, none⟩ = some (tab (w.heap.size + 1)) := HA2.out.cell 4
    have t2 : w2.cell? ⟨w.heap.size + 1, 2, none⟩ = some noP := HT2.out.cell 2
    have t2f := HT2.out.free 2
    have HA3 := Lib.hid ((HA2.out.other (k := w.heap.size + 1) (i := 2) hne (ptr w.heap.size)).drew)
    have HT3 := Lib.hid ((HT2.out.set 2 (ptr w.heap.size)).drew)
    have HK3 := Lib.hid ((HK2.out.other (k := w.heap.size + 1) (i := 2) (by omega) (ptr w.heap.size)).drew)
    have HU3 := Lib.hid ((HU2.out.set (b := w.heap.size + 1) (i := 2) (.inl (by omega)) (ptr w.heap.size)).drew)
    have HZ3 := Lib.hid (show (w2.setCell ⟨w.heap.size + 1, 2, none⟩ (ptr w.heap.size)).drew.heap.size = w.heap.size + 2 by rw [← HZ2.out]; simp [World.setCell])
    have a2 : (w2.setCell ⟨w.heap.size + 1, 2, none⟩ (ptr w.heap.size)).drew.cell? ⟨a, 2, none⟩ = some (.string ⟨#[64]⟩) := HA3.out.cell 2
    have a3 : (w2.setCell ⟨w.heap.size + 1, 2, none⟩ (ptr w.heap.size)).drew.cell? ⟨a, 3, none⟩ = some (ptr B) := HA3.out.cell 3
    have a2f := HA3.out.free 2
    have a3f := HA3.out.free 3
    have A4 := (HA2.out.other (k := w.heap.size + 1) (i := 2) hne (ptr w.heap.size)).set 2 noS
    have b3 : ((w2.setCell ⟨w.heap.size + 1, 2, none⟩ (ptr w.heap.size)).setCell ⟨a, 2, none⟩ noS).cell? ⟨a, 3, none⟩ = some (ptr B) := A4.cell 3
    have b3f := A4.free 3
    have HA5 := Lib.hid ((A4.set 3 noP).drew)
    have HT5 := Lib.hid ((((HT2.out.set 2 (ptr w.heap.size)).other (k := a) (i := 2) (by omega) noS).other (k := a) (i := 3) (by omega) noP).drew)
    have HK5 := Lib.hid ((((HK2.out.other (k := w.heap.size + 1) (i := 2) (by omega) (ptr w.heap.size)).other (k := a) (i := 2) (by omega) noS).other (k := a) (i := 3) (by omega) noP).drew)
    have HU5 := Lib.hid ((((HU2.out.set (b := w.heap.size + 1) (i := 2) (.inl (by omega)) (ptr w.heap.size)).set (b := a) (i := 2) (.inr rfl) noS).set (b := a) (i := 3) (.inr rfl) noP).drew)
    have HZ5 := Lib.hid (show ((((w2.setCell ⟨w.heap.size + 1, 2, none⟩ (ptr w.heap.size)).setCell ⟨a, 2, none⟩ noS).setCell ⟨a, 3, none⟩ noP).drew).heap.size = w.heap.size + 2 by rw [← HZ2.out]; simp [World.setCell])
    clear A4
    go_region
    all_goals (go_wp2_with fail)
    generalize (((w2.setCell ⟨w.heap.size + 1, 2, none⟩ (ptr w.heap.size)).setCell ⟨a, 2, none⟩ noS).setCell ⟨a, 3, none⟩ noP).drew = w5 at *
    refine (add_empty w.heap.size v p (ptr g) _ _ _ _ w5 HK5.out).mono ?_
    rintro e w6 ⟨rfl, hb6, hs6, hu6⟩
    have HE := Lib.hid hb6
    have HS := Lib.hid hs6
    have HV := Lib.hid hu6
    clear hb6 hs6 hu6
    go_wp2
    go_end0
    exact ⟨rfl, HA5.out.upd HV.out (by omega), HT5.out.upd HV.out (by omega), HE.out, by rw [HS.out]; exact HZ5.out, HU5.out.trans HV.out (fun k hk e => by omega)⟩
set_option maxRecDepth 100000 in
set_option maxHeartbeats 1600000 in
/-- The first key at the root. -/
theorem add_root_new (g T : Nat) (v : ByteArray) (p : Int) (w : World) (g2 : w.cell? ⟨g, 2, none⟩ = some noS) (g4 : w.cell? ⟨g, 4, none⟩ = some (tab T)) (g42 : w.cell? ⟨g, 42, none⟩ = some (.int .u8 0))
    (hT : Blk w T tP #[noP, noP, noP, noP, noP]) (hgT : g ≠ T) (hg : g < w.heap.size) :
    Calls Tryz.prog 212 #[ptr g, .string ⟨#[36, 64]⟩, .string v, .int .i64 p, ptr g] w fun e w' => e = .returned (.tuple #[]) ∧ Blk w' T tP #[ptr w.heap.size, noP, noP, noP, noP] ∧ Blk w' w.heap.size tN #[noS, .int .i64 0, .string ⟨#[64]⟩, ptr (w.heap.size + 1), noT] ∧ Blk w' (w.heap.size + 1) tN (leaf v p) ∧ w'.heap.size = w.heap.size + 2 ∧ Upd w w' (fun k => k = T) := by
  have d0 : w.cell? ⟨T, 0, none⟩ = some noP := hT.cell 0
  have e0 := hT.free 0
  have p0 : (w.alloc (.cells (leaf ⟨#[]⟩ 0) tN)).cell? ⟨T, 0, none⟩ = some noP := (hT.alloc (.cells (leaf ⟨#[]⟩ 0) tN)).cell 0
  have p0f := (hT.alloc (.cells (leaf ⟨#[]⟩ 0) tN)).free 0
  have hlt := hT.lt
  have hx : (⟨#[36, 64]⟩ : ByteArray).extract 1 2 = ⟨#[64]⟩ := rfl
  have hi : (⟨#[36, 64]⟩ : ByteArray)[0].toNat = 36 := rfl
  have bT := ((hT.set 0 (ptr w.heap.size)).alloc (.cells (leaf ⟨#[]⟩ 0) tN)).drew
  have bn : Blk ((w.setCell ⟨T, 0, none⟩ (ptr w.heap.size)).alloc (.cells (leaf ⟨#[]⟩ 0) tN)).drew w.heap.size tN (leaf ⟨#[]⟩ 0) := by
    have := Blk.new (w.setCell ⟨T, 0, none⟩ (ptr w.heap.size)) tN (leaf ⟨#[]⟩ 0)
    rw [show (w.setCell ⟨T, 0, none⟩ (ptr w.heap.size)).heap.size = w.heap.size by simp [World.setCell]] at this
    exact this.drew
  have U := (((((Upd.refl w (fun k => k = T)).set (b := T) (i := 0) (.inr rfl) (ptr w.heap.size)).alloc (.cells (leaf ⟨#[]⟩ 0) tN))).drew)
  have G := U.block g hg (by omega)
  have s4 : ((w.setCell ⟨T, 0, none⟩ (ptr w.heap.size)).alloc (.cells (leaf ⟨#[]⟩ 0) tN)).drew.cell? ⟨g, 4, none⟩ = some (tab T) := (World.cell?_of_block (w := w) (a := ⟨g, 4, none⟩) G).trans g4
  have r0 : ((w.setCell ⟨T, 0, none⟩ (ptr w.heap.size)).alloc (.cells (leaf ⟨#[]⟩ 0) tN)).drew.cell? ⟨T, 0, none⟩ = some (ptr w.heap.size) := bT.cell 0
  have HZ := Lib.hid (show ((w.setCell ⟨T, 0, none⟩ (ptr w.heap.size)).alloc (.cells (leaf ⟨#[]⟩ 0) tN)).drew.heap.size = w.heap.size + 1 by simp [World.setCell])
  have HU := Lib.hid U
  have HT := Lib.hid bT
  have HN := Lib.hid bn
  clear hT bT bn U G
  go_enter Tryz.func212, Tryz.ntmps212
  go_wp2
  go_region
  all_goals (go_wp2_with fail)
  generalize ((w.setCell ⟨T, 0, none⟩ (ptr w.heap.size)).alloc (.cells (leaf ⟨#[]⟩ 0) tN)).drew = w3 at *
  have HN3 := Lib.hid (HN.out.drew)
  go_region_with
    (first
      | (go_at_call 212; refine (add_fresh w.heap.size 64 v p (ptr g) w3.drew HN3.out).mono ?_; rintro e w4 ⟨rfl, ha4, hb4, hs4, hu4⟩; have HD := Lib.hid ha4; have HE := Lib.hid hb4; have HS := Lib.hid hs4; have HV := Lib.hid hu4; clear ha4 hb4 hs4 hu4))
  all_goals go_wp2
  all_goals go_end0
  all_goals (
    have hz : w3.drew.heap.size = w.heap.size + 1 := HZ.out
    have h1 := HD.out
    have h2 := HE.out
    have h3 := HS.out
    rw [hz] at h1 h2 h3
    exact ⟨rfl, HT.out.drew.upd HV.out (by omega), h1, h2, h3, HU.out.drew.trans HV.out (fun k hk e => by omega)⟩)

set_option maxRecDepth 100000 in
set_option maxHeartbeats 1600000 in
/-- A later key at the root. -/
theorem add_root_old (g T A : Nat) (c : UInt8) (v : ByteArray) (p : Int) (w : World) (Q : World → Prop) (g2 : w.cell? ⟨g, 2, none⟩ = some noS) (g4 : w.cell? ⟨g, 4, none⟩ = some (tab T)) (g42 : w.cell? ⟨g, 42, none⟩ = some (.int .u8 0))
    (t0 : w.cell? ⟨T, 0, none⟩ = some (ptr A))
    (hs : Calls Tryz.prog 212 #[ptr A, .string ⟨#[c]⟩, .string v, .int .i64 p, ptr g] w.drew.drew fun e w' => e = .returned (.tuple #[]) ∧ Q w') :
    Calls Tryz.prog 212 #[ptr g, .string ⟨#[36, c]⟩, .string v, .int .i64 p, ptr g] w fun e w' => e = .returned (.tuple #[]) ∧ Q w' := by
  have hx : (⟨#[36, c]⟩ : ByteArray).extract 1 2 = ⟨#[c]⟩ := rfl
  have hz : (⟨#[36, c]⟩ : ByteArray).size = 2 := rfl
  have hi : ((⟨#[36, c]⟩ : ByteArray)[0]'(by rw [hz]; decide)).toNat = 36 := rfl
  have hne : ((⟨#[36, c]⟩ : ByteArray) == ⟨#[]⟩) = false := by
    apply beq_false_of_ne
    intro e
    have := congrArg ByteArray.size e
    simp [ByteArray.size] at this
  have HC := Lib.hid hs
  clear hs
  go_enter Tryz.func212, Tryz.ntmps212
  go_wp2
  go_region
  all_goals (go_wp2_with fail)
  go_region_with
    (first
      | (go_at_call 212; refine HC.out.mono ?_; rintro e w4 ⟨rfl, hq⟩; have HQ := Lib.hid hq; clear hq))
  all_goals go_wp2
  all_goals go_end0
  all_goals exact ⟨rfl, HQ.out⟩
end Go.Proofs.YtlkpbpecgdphaaaGreatDoor
