/-
  WALKS: strings.trieNode.add, as strings.NewReplacer comes to it at four keys of two letters that begin alike.
-/
import Derived.Test.YtlkpbpecgdphaaaGreatDoorSearch
import Derived.Test.YtlkpbpecgdphaaaGreatDoorBlk
import Derived.Laws.Tables
import Derived.Laws.MakeOwn
import Derived.RangeFuncRecord
import Derived.Deep.RegionHeld3
namespace Go.Proofs.YtlkpbpecgdphaaaGreatDoor
open Go.RowKit

abbrev noS : Value := .string ⟨#[]⟩
abbrev noP : Value := .pointer none
abbrev noT : Value := .slice none 0 0
abbrev tN : TypeId := 290
abbrev leaf (v : ByteArray) (p : Int) : Array Value := #[.string v, .int .i64 p, noS, noP, noT]

set_option maxRecDepth 100000 in
set_option maxHeartbeats 1600000 in
/-- add, the key come to its end: value and priority are laid. -/
theorem add_empty (b : Nat) (v : ByteArray) (p : Int) (rp x0 x2 x3 x4 : Value) (w : World) (h : Blk w b tN #[x0, .int .i64 0, x2, x3, x4]) :
    Calls Tryz.prog 212 #[ptr b, .string ⟨#[]⟩, .string v, .int .i64 p, rp] w fun e w' => e = .returned (.tuple #[]) ∧ Blk w' b tN #[.string v, .int .i64 p, x2, x3, x4] ∧ w'.heap.size = w.heap.size ∧ Upd w w' (fun k => k = b) := by
  have c0 := h.cell 0
  have c1 := h.cell 1
  have f0 := h.free 0
  have f1 := h.free 1
  simp at c0 c1
  have HB := Lib.hid h
  clear h
  go_enter Tryz.func212, Tryz.ntmps212
  go_wp2
  first | go_end0 | (simp only [Exit.inBlock, Exit.then]; refine bodyPost_ret (results_none rfl _ _ _) rfl ?_) | refine bodyPost_ret (results_none rfl _ _ _) rfl ?_
  exact ⟨rfl, (HB.out.set 0 _).set 1 _, by simp [World.setCell], ((Upd.refl w (fun k => k = b)).set (b := b) (.inr rfl) _).set (b := b) (.inr rfl) _⟩

set_option maxRecDepth 100000 in
set_option maxHeartbeats 1600000 in
/-- add of one letter to an empty node. -/
theorem add_fresh (a : Nat) (c : UInt8) (v : ByteArray) (p : Int) (rp : Value) (w : World) (h : Blk w a tN (leaf ⟨#[]⟩ 0)) :
    Calls Tryz.prog 212 #[ptr a, .string ⟨#[c]⟩, .string v, .int .i64 p, rp] w fun e w' => e = .returned (.tuple #[]) ∧ Blk w' a tN #[noS, .int .i64 0, .string ⟨#[c]⟩, ptr w.heap.size, noT] ∧ Blk w' w.heap.size tN (leaf v p) ∧ w'.heap.size = w.heap.size + 1 ∧ Upd w w' (fun k => k = a) := by
  have c2 := h.cell 2
  have c3 := h.cell 3
  have c4 := h.cell 4
  have f2 := h.free 2
  have f3 := h.free 3
  simp at c2 c3 c4
  have hne : ((⟨#[c]⟩ : ByteArray) == ⟨#[]⟩) = false := by
    apply beq_false_of_ne
    intro e
    have := congrArg ByteArray.size e
    simp [ByteArray.size] at this
  have hlt := h.lt
  have b2 := (h.set 2 (.string ⟨#[c]⟩)).alloc (.cells (leaf ⟨#[]⟩ 0) tN)
  have n2 : Blk ((w.setCell ⟨a, 2, none⟩ (.string ⟨#[c]⟩)).alloc (.cells (leaf ⟨#[]⟩ 0) tN)) w.heap.size tN (leaf ⟨#[]⟩ 0) := by
    have := Blk.new (w.setCell ⟨a, 2, none⟩ (.string ⟨#[c]⟩)) tN (leaf ⟨#[]⟩ 0)
    rwa [show (w.setCell ⟨a, 2, none⟩ (.string ⟨#[c]⟩)).heap.size = w.heap.size by simp [World.setCell]] at this
  have g3 := b2.cell 3
  have g3f := b2.free 3
  have b3 := ((h.set 2 (.string ⟨#[c]⟩)).set 3 (ptr w.heap.size)).alloc (.cells (leaf ⟨#[]⟩ 0) tN)
  have n3 : Blk (((w.setCell ⟨a, 2, none⟩ (.string ⟨#[c]⟩)).setCell ⟨a, 3, none⟩ (ptr w.heap.size)).alloc (.cells (leaf ⟨#[]⟩ 0) tN)) w.heap.size tN (leaf ⟨#[]⟩ 0) := by
    have := Blk.new ((w.setCell ⟨a, 2, none⟩ (.string ⟨#[c]⟩)).setCell ⟨a, 3, none⟩ (ptr w.heap.size)) tN (leaf ⟨#[]⟩ 0)
    rwa [show ((w.setCell ⟨a, 2, none⟩ (.string ⟨#[c]⟩)).setCell ⟨a, 3, none⟩ (ptr w.heap.size)).heap.size = w.heap.size by simp [World.setCell]] at this
  have k3 := b3.cell 3
  have HU := Lib.hid ((((Upd.refl w (fun k => k = a)).set (b := a) (i := 2) (.inr rfl) (.string ⟨#[c]⟩)).set (b := a) (i := 3) (.inr rfl) (ptr w.heap.size)).alloc (.cells (leaf ⟨#[]⟩ 0) tN))
  have HZ := Lib.hid (show (((w.setCell ⟨a, 2, none⟩ (.string ⟨#[c]⟩)).setCell ⟨a, 3, none⟩ (ptr w.heap.size)).alloc (.cells (leaf ⟨#[]⟩ 0) tN)).heap.size = w.heap.size + 1 by simp [World.setCell])
  simp at g3 k3
  have HB := Lib.hid b3
  have HN := Lib.hid n3
  clear h b2 n2 b3 n3
  go_enter Tryz.func212, Tryz.ntmps212
  go_wp2_with fail
  generalize ((w.setCell ⟨a, 2, none⟩ (.string ⟨#[c]⟩)).setCell ⟨a, 3, none⟩ (ptr w.heap.size)).alloc (.cells (leaf ⟨#[]⟩ 0) tN) = w3 at *
  refine (add_empty w.heap.size v p rp _ _ _ _ w3 HN.out).mono ?_
  rintro e w4 ⟨rfl, hb4, hs4, hu4⟩
  have HE := Lib.hid hb4
  have HS := Lib.hid hs4
  have HV := Lib.hid hu4
  clear hb4 hs4 hu4
  go_wp2
  go_end0
  exact ⟨rfl, HB.out.upd HV.out (by omega), HE.out, by rw [HS.out, HZ.out], HU.out.trans HV.out (fun k hk e => by omega)⟩
abbrev tP : TypeId := 287
abbrev tab (T : Nat) : Value := .slice (some ⟨T, 0, none⟩) 5 5

set_option maxRecDepth 100000 in
set_option maxHeartbeats 1600000 in
/-- add of one letter to a node with a table. -/
theorem add_tab94 (a T g : Nat) (v : ByteArray) (p : Int) (x0 x1 x2 x3 : Value) (w : World) (h : Blk w a tN #[noS, .int .i64 0, noS, noP, tab T]) (hT : Blk w T tP #[x0, x1, x2, x3, noP])
    (hg : w.cell? ⟨g, 100, none⟩ = some (.int .u8 4)) (haT : a ≠ T) :
    Calls Tryz.prog 212 #[ptr a, .string ⟨#[94]⟩, .string v, .int .i64 p, ptr g] w fun e w' => e = .returned (.tuple #[]) ∧ Blk w' T tP #[x0, x1, x2, x3, ptr w.heap.size] ∧ Blk w' w.heap.size tN (leaf v p) ∧ w'.heap.size = w.heap.size + 1 ∧ Upd w w' (fun k => k = T) := by
  have c2 := h.cell 2
  have c4 := h.cell 4
  have d4 := hT.cell 4
  have e4 := hT.free 4
  simp at c2 c4 d4
  have hx : (⟨#[94]⟩ : ByteArray).extract 1 1 = ⟨#[]⟩ := rfl
  have hi : (⟨#[94]⟩ : ByteArray)[0].toNat = 94 := rfl
  have p4 := (hT.alloc (.cells (leaf ⟨#[]⟩ 0) tN)).cell 4
  have p4f := (hT.alloc (.cells (leaf ⟨#[]⟩ 0) tN)).free 4
  have hlt := hT.lt
  have bT := ((hT.set 4 (ptr w.heap.size)).alloc (.cells (leaf ⟨#[]⟩ 0) tN)).drew
  have ba := ((h.other (k := T) (i := 4) haT (ptr w.heap.size)).alloc (.cells (leaf ⟨#[]⟩ 0) tN)).drew
  have bn : Blk ((w.setCell ⟨T, 4, none⟩ (ptr w.heap.size)).alloc (.cells (leaf ⟨#[]⟩ 0) tN)).drew w.heap.size tN (leaf ⟨#[]⟩ 0) := by
    have := Blk.new (w.setCell ⟨T, 4, none⟩ (ptr w.heap.size)) tN (leaf ⟨#[]⟩ 0)
    rw [show (w.setCell ⟨T, 4, none⟩ (ptr w.heap.size)).heap.size = w.heap.size by simp [World.setCell]] at this
    exact this.drew
  have s4 := ba.cell 4
  have r4 := bT.cell 4
  have HU := Lib.hid (((((Upd.refl w (fun k => k = T)).set (b := T) (i := 4) (.inr rfl) (ptr w.heap.size)).alloc (.cells (leaf ⟨#[]⟩ 0) tN))).drew)
  have HZ := Lib.hid (show ((w.setCell ⟨T, 4, none⟩ (ptr w.heap.size)).alloc (.cells (leaf ⟨#[]⟩ 0) tN)).drew.heap.size = w.heap.size + 1 by simp [World.setCell])
  simp at p4
  have s4 : ((w.setCell ⟨T, 4, none⟩ (ptr w.heap.size)).alloc (.cells (leaf ⟨#[]⟩ 0) tN)).drew.cell? ⟨a, 4, none⟩ = some (tab T) := s4
  have r4 : ((w.setCell ⟨T, 4, none⟩ (ptr w.heap.size)).alloc (.cells (leaf ⟨#[]⟩ 0) tN)).drew.cell? ⟨T, 4, none⟩ = some (ptr w.heap.size) := r4
  have HT := Lib.hid bT
  have HN := Lib.hid bn
  clear h hT bT ba bn
  go_enter Tryz.func212, Tryz.ntmps212
  go_wp2
  go_region
  all_goals (go_wp2_with fail)
  generalize ((w.setCell ⟨T, 4, none⟩ (ptr w.heap.size)).alloc (.cells (leaf ⟨#[]⟩ 0) tN)).drew = w3 at *
  have HN3 := Lib.hid (HN.out.drew)
  go_region_with
    (first
      | (go_at_call 212; refine (add_empty w.heap.size v p (ptr g) _ _ _ _ w3.drew HN3.out).mono ?_; rintro e w4 ⟨rfl, hb4, hs4, hu4⟩; have HE := Lib.hid hb4; have HS := Lib.hid hs4; have HV := Lib.hid hu4; clear hb4 hs4 hu4))
  all_goals go_wp2
  all_goals go_end0
  all_goals exact ⟨rfl, HT.out.drew.upd HV.out (by omega), HE.out, by rw [HS.out]; exact HZ.out, HU.out.drew.trans HV.out (fun k hk e => by omega)⟩
set_option maxRecDepth 100000 in
set_option maxHeartbeats 1600000 in
/-- add of one letter to a node with a table. -/
theorem add_tab42 (a T g : Nat) (v : ByteArray) (p : Int) (x0 x2 x3 x4 : Value) (w : World) (h : Blk w a tN #[noS, .int .i64 0, noS, noP, tab T]) (hT : Blk w T tP #[x0, noP, x2, x3, x4])
    (hg : w.cell? ⟨g, 48, none⟩ = some (.int .u8 1)) (haT : a ≠ T) :
    Calls Tryz.prog 212 #[ptr a, .string ⟨#[42]⟩, .string v, .int .i64 p, ptr g] w fun e w' => e = .returned (.tuple #[]) ∧ Blk w' T tP #[x0, ptr w.heap.size, x2, x3, x4] ∧ Blk w' w.heap.size tN (leaf v p) ∧ w'.heap.size = w.heap.size + 1 ∧ Upd w w' (fun k => k = T) := by
  have c2 := h.cell 2
  have c4 := h.cell 4
  have d4 := hT.cell 1
  have e4 := hT.free 1
  simp at c2 c4 d4
  have hx : (⟨#[42]⟩ : ByteArray).extract 1 1 = ⟨#[]⟩ := rfl
  have hi : (⟨#[42]⟩ : ByteArray)[0].toNat = 42 := rfl
  have p4 := (hT.alloc (.cells (leaf ⟨#[]⟩ 0) tN)).cell 1
  have p4f := (hT.alloc (.cells (leaf ⟨#[]⟩ 0) tN)).free 1
  have hlt := hT.lt
  have bT := ((hT.set 1 (ptr w.heap.size)).alloc (.cells (leaf ⟨#[]⟩ 0) tN)).drew
  have ba := ((h.other (k := T) (i := 1) haT (ptr w.heap.size)).alloc (.cells (leaf ⟨#[]⟩ 0) tN)).drew
  have bn : Blk ((w.setCell ⟨T, 1, none⟩ (ptr w.heap.size)).alloc (.cells (leaf ⟨#[]⟩ 0) tN)).drew w.heap.size tN (leaf ⟨#[]⟩ 0) := by
    have := Blk.new (w.setCell ⟨T, 1, none⟩ (ptr w.heap.size)) tN (leaf ⟨#[]⟩ 0)
    rw [show (w.setCell ⟨T, 1, none⟩ (ptr w.heap.size)).heap.size = w.heap.size by simp [World.setCell]] at this
    exact this.drew
  have s4 := ba.cell 4
  have r4 := bT.cell 1
  have HU := Lib.hid (((((Upd.refl w (fun k => k = T)).set (b := T) (i := 1) (.inr rfl) (ptr w.heap.size)).alloc (.cells (leaf ⟨#[]⟩ 0) tN))).drew)
  have HZ := Lib.hid (show ((w.setCell ⟨T, 1, none⟩ (ptr w.heap.size)).alloc (.cells (leaf ⟨#[]⟩ 0) tN)).drew.heap.size = w.heap.size + 1 by simp [World.setCell])
  simp at p4
  have s4 : ((w.setCell ⟨T, 1, none⟩ (ptr w.heap.size)).alloc (.cells (leaf ⟨#[]⟩ 0) tN)).drew.cell? ⟨a, 4, none⟩ = some (tab T) := s4
  have r4 : ((w.setCell ⟨T, 1, none⟩ (ptr w.heap.size)).alloc (.cells (leaf ⟨#[]⟩ 0) tN)).drew.cell? ⟨T, 1, none⟩ = some (ptr w.heap.size) := r4
  have HT := Lib.hid bT
  have HN := Lib.hid bn
  clear h hT bT ba bn
  go_enter Tryz.func212, Tryz.ntmps212
  go_wp2
  go_region
  all_goals (go_wp2_with fail)
  generalize ((w.setCell ⟨T, 1, none⟩ (ptr w.heap.size)).alloc (.cells (leaf ⟨#[]⟩ 0) tN)).drew = w3 at *
  have HN3 := Lib.hid (HN.out.drew)
  go_region_with
    (first
      | (go_at_call 212; refine (add_empty w.heap.size v p (ptr g) _ _ _ _ w3.drew HN3.out).mono ?_; rintro e w4 ⟨rfl, hb4, hs4, hu4⟩; have HE := Lib.hid hb4; have HS := Lib.hid hs4; have HV := Lib.hid hu4; clear hb4 hs4 hu4))
  all_goals go_wp2
  all_goals go_end0
  all_goals exact ⟨rfl, HT.out.drew.upd HV.out (by omega), HE.out, by rw [HS.out]; exact HZ.out, HU.out.drew.trans HV.out (fun k hk e => by omega)⟩
end Go.Proofs.YtlkpbpecgdphaaaGreatDoor
