/-
  WALKS: strings.trieNode.add, the second letter at a node; the keys at the root.
-/
import Derived.Test.YtlkpbpecgdphaaaGreatDoorTrie
import Derived.Laws.MakeOwn
namespace Go.Proofs.YtlkpbpecgdphaaaGreatDoor
open Go.RowKit

theorem five : madeCells (Value.pointer none).cells (Int.toNat 5 * Tryz.t287.size) = #[noP, noP, noP, noP, noP] := by
  refine Array.ext (by simp [madeCells, Tryz.t287]) (fun i h1 h2 => ?_)
  have h5 : i < 5 := by simpa using h2
  simp only [madeCells, Array.getElem_map, Array.getElem_range]
  rcases i with _ | _ | _ | _ | _ | i
  · rfl
  · rfl
  · rfl
  · rfl
  · rfl
  · omega
theorem make5 (w : World) : (Instr.makeSlice 288 (.int .i64 5) (.int .i64 5)).run Tryz.prog w = .ok (.slice (some ⟨w.heap.size, 0, none⟩) 5 5) (w.alloc (.cells #[noP, noP, noP, noP, noP] tP)) := by
  have h := run_makeSlice (P := Tryz.prog) w 288 287 Tryz.t287 (.pointer none) Tryz.underlying288 (by kernel_rfl) (by kernel_rfl) .i64 .i64 5 5 (by decide) (by decide) (by decide) (by decide) (by decide)
  rw [show madeCells (Value.pointer none).cells (Int.toNat 5 * Tryz.t287.size) = #[noP, noP, noP, noP, noP] from five] at h
  exact h

set_option maxRecDepth 100000 in
set_option maxHeartbeats 1600000 in
/-- add of a second letter to a node with one: the table is laid. -/
theorem add_split (a B g : Nat) (v : ByteArray) (p : Int) (w : World) (h : Blk w a tN #[noS, .int .i64 0, .string ⟨#[64]⟩, ptr B, noT])
    (h5 : w.cell? ⟨g, 5, none⟩ = some (.int .i64 5)) (h70 : w.cell? ⟨g, 70, none⟩ = some (.int .u8 3)) (h66 : w.cell? ⟨g, 66, none⟩ = some (.int .u8 2)) (hga : g ≠ a) (hg : g < w.heap.size) :
    Calls Tryz.prog 212 #[ptr a, .string ⟨#[60]⟩, .string v, .int .i64 p, ptr g] w fun e w' => e = .returned (.tuple #[]) ∧ Blk w' a tN #[noS, .int .i64 0, noS, noP, tab (w.heap.size + 1)] ∧ Blk w' (w.heap.size + 1) tP #[noP, noP, ptr w.heap.size, ptr B, noP] ∧ Blk w' w.heap.size tN (leaf v p) ∧ w'.heap.size = w.heap.size + 2 ∧ Upd w w' (fun k => k = a) := by
  have c2 := h.cell 2
  have c3 := h.cell 3
  have c4 := h.cell 4
  have f2 := h.free 2
  have f3 := h.free 3
  have f4 := h.free 4
  simp at c2 c3 c4
  have hx : (⟨#[60]⟩ : ByteArray).extract 1 1 = ⟨#[]⟩ := rfl
  have hi : (⟨#[60]⟩ : ByteArray)[0].toNat = 60 := rfl
  have hj : (⟨#[64]⟩ : ByteArray)[0].toNat = 64 := rfl
  have hlt := h.lt
  have HB := Lib.hid h
  clear h
  go_enter Tryz.func212, Tryz.ntmps212
  go_wp2
  go_loop [10] (fun i => i = .int .i64 0) (fun _ => 0)
  case atStart => rfl
  case round =>
    subst hrel
    have hmk := make5
    have A1 := ((((HB.out.set 4 (tab (w.heap.size + 1))).alloc (.cells (leaf ⟨#[]⟩ 0) tN)).alloc (.cells #[noP, noP, noP, noP, noP] tP)).drew)
    have K1 : Blk ((((w.setCell ⟨a, 4, none⟩ (tab (w.heap.size + 1))).alloc (.cells (leaf ⟨#[]⟩ 0) tN)).alloc (.cells #[noP, noP, noP, noP, noP] tP)).drew) w.heap.size tN (leaf ⟨#[]⟩ 0) := by
      have := Blk.new (w.setCell ⟨a, 4, none⟩ (tab (w.heap.size + 1))) tN (leaf ⟨#[]⟩ 0)
      rw [show (w.setCell ⟨a, 4, none⟩ (tab (w.heap.size + 1))).heap.size = w.heap.size by simp [World.setCell]] at this
      exact (this.alloc _).drew
    have T1 : Blk ((((w.setCell ⟨a, 4, none⟩ (tab (w.heap.size + 1))).alloc (.cells (leaf ⟨#[]⟩ 0) tN)).alloc (.cells #[noP, noP, noP, noP, noP] tP)).drew) (w.heap.size + 1) tP #[noP, noP, noP, noP, noP] := by
      have := Blk.new ((w.setCell ⟨a, 4, none⟩ (tab (w.heap.size + 1))).alloc (.cells (leaf ⟨#[]⟩ 0) tN)) tP #[noP, noP, noP, noP, noP]
      rw [show ((w.setCell ⟨a, 4, none⟩ (tab (w.heap.size + 1))).alloc (.cells (leaf ⟨#[]⟩ 0) tN)).heap.size = w.heap.size + 1 by simp [World.setCell]] at this
      exact this.drew
    have U1 := (((((Upd.refl w (fun k => k = a)).set (b := a) (i := 4) (.inr rfl) (tab (w.heap.size + 1))).alloc (.cells (leaf ⟨#[]⟩ 0) tN)).alloc (.cells #[noP, noP, noP, noP, noP] tP)).drew)
    have Z1 : ((((w.setCell ⟨a, 4, none⟩ (tab (w.heap.size + 1))).alloc (.cells (leaf ⟨#[]⟩ 0) tN)).alloc (.cells #[noP, noP, noP, noP, noP] tP)).drew).heap.size = w.heap.size + 2 := by simp [World.setCell]
    have G1 := U1.block g hg (by omega)
    have g70 : ((((w.setCell ⟨a, 4, none⟩ (tab (w.heap.size + 1))).alloc (.cells (leaf ⟨#[]⟩ 0) tN)).alloc (.cells #[noP, noP, noP, noP, noP] tP)).drew).cell? ⟨g, 70, none⟩ = some (.int .u8 3) := (World.cell?_of_block (w := w) (a := ⟨g, 70, none⟩) G1).trans h70
    have g66 : ((((w.setCell ⟨a, 4, none⟩ (tab (w.heap.size + 1))).alloc (.cells (leaf ⟨#[]⟩ 0) tN)).alloc (.cells #[noP, noP, noP, noP, noP] tP)).drew).cell? ⟨g, 66, none⟩ = some (.int .u8 2) := (World.cell?_of_block (w := w) (a := ⟨g, 66, none⟩) G1).trans h66
    have HA1 := Lib.hid A1
    have HK1 := Lib.hid K1
    have HT1 := Lib.hid T1
    have HU1 := Lib.hid U1
    have HZ1 := Lib.hid Z1
    clear A1 K1 T1 U1 Z1 G1
    go_wp2
    go_region
    all_goals go_wp2
    generalize ((((w.setCell ⟨a, 4, none⟩ (tab (w.heap.size + 1))).alloc (.cells (leaf ⟨#[]⟩ 0) tN)).alloc (.cells #[noP, noP, noP, noP, noP] tP)).drew) = w1 at *
    clear c2 c3 c4 f2 f3 f4 h5 h70 h66 hmk
    have a4 : w1.cell? ⟨a, 4, none⟩ = some (tab (w.heap.size + 1)) := HA1.out.cell 4
    have a2 : w1.cell? ⟨a, 2, none⟩ = some (.string ⟨#[64]⟩) := HA1.out.cell 2
    have t3 : w1.cell? ⟨w.heap.size + 1, 3, none⟩ = some noP := HT1.out.cell 3
    have t3f := HT1.out.free 3
    have hne : a ≠ w.heap.size + 1 := by omega
    have hgn : g ≠ w.heap.size + 1 := by omega
    have HA2 := Lib.hid ((HA1.out.other (k := w.heap.size + 1) (i := 3) hne (ptr B)).drew)
    have HT2 := Lib.hid ((HT1.out.set 3 (ptr B)).drew)
    have HK2 := Lib.hid ((HK1.out.other (k := w.heap.size + 1) (i := 3) (by omega) (ptr B)).drew)
    have HU2 := Lib.hid ((HU1.out.set (b := w.heap.size + 1) (i := 3) (.inl (by omega)) (ptr B)).drew)
    have HZ2 := Lib.hid (show (w1.setCell ⟨w.heap.size + 1, 3, none⟩ (ptr B)).drew.heap.size = w.heap.size + 2 by rw [← HZ1.out]; simp [World.setCell])
    have g66' : (w1.setCell ⟨w.heap.size + 1, 3, none⟩ (ptr B)).drew.cell? ⟨g, 66, none⟩ = some (.int .u8 2) := (World.cell?_setCell_other _ ⟨w.heap.size + 1, 3, none⟩ ⟨g, 66, none⟩ _ (by intro e; injection e with e; omega)).trans g66
    go_region
    all_goals (go_wp2_with fail)
    generalize (w1.setCell ⟨w.heap.size + 1, 3, none⟩ (ptr B)).drew = w2 at *
    clear a4 a2 t3 t3f g70 g66
    have a4 : w2.cell? ⟨a, 4, none⟩ = some (tab (w.heap.size + 1)) := HA2.out.cell 4
    have t2 : w2.cell? ⟨w.heap.size + 1, 2, none⟩ = some noP := HT2.out.cell 2
    have t2f := HT2.out.free 2
    have HA3 := Lib.hid ((HA2.out.other (k := w.heap.size + 1) (i := 2) hne (ptr w.heap.size)).drew)
    have HT3 := Lib.hid ((HT2.out.set 2 (ptr w.heap.size)).drew)
    have HK3 := Lib.hid ((HK2.out.other (k := w.heap.size + 1) (i := 2) (by omega) (ptr w.heap.size)).drew)
    have HU3 := Lib.hid ((HU2.out.set (b := w.heap.size + 1) (i := 2) (.inl (by omega)) (ptr w.heap.size)).drew)
    have HZ3 := Lib.hid (show (w2.setCell ⟨w.heap.size + 1, 2, none⟩ (ptr w.heap.size)).drew.heap.size = w.heap.size + 2 by rw [← HZ2.out]; simp [World.setCell])
    have a2 : (w2.setCell ⟨w.heap.size + 1, 2, none⟩ (ptr w.heap.size)).drew.cell? ⟨a, 2, none⟩ = some (.string ⟨#[64]⟩) := HA3.out.cell 2
    have a3 : (w2.setCell ⟨w.heap.size + 1, 2, none⟩ (ptr w.heap.size)).drew.cell? ⟨a, 3, none⟩ = some (ptr B) := HA3.out.cell 3
    have a2f := HA3.out.free 2
    have a3f := HA3.out.free 3
    have A4 := (HA2.out.other (k := w.heap.size + 1) (i := 2) hne (ptr w.heap.size)).set 2 noS
    have b3 : ((w2.setCell ⟨w.heap.size + 1, 2, none⟩ (ptr w.heap.size)).setCell ⟨a, 2, none⟩ noS).cell? ⟨a, 3, none⟩ = some (ptr B) := A4.cell 3
    have b3f := A4.free 3
    have HA5 := Lib.hid ((A4.set 3 noP).drew)
    have HT5 := Lib.hid ((((HT2.out.set 2 (ptr w.heap.size)).other (k := a) (i := 2) (by omega) noS).other (k := a) (i := 3) (by omega) noP).drew)
    have HK5 := Lib.hid ((((HK2.out.other (k := w.heap.size + 1) (i := 2) (by omega) (ptr w.heap.size)).other (k := a) (i := 2) (by omega) noS).other (k := a) (i := 3) (by omega) noP).drew)
    have HU5 := Lib.hid ((((HU2.out.set (b := w.heap.size + 1) (i := 2) (.inl (by omega)) (ptr w.heap.size)).set (b := a) (i := 2) (.inr rfl) noS).set (b := a) (i := 3) (.inr rfl) noP).drew)
    have HZ5 := Lib.hid (show ((((w2.setCell ⟨w.heap.size + 1, 2, none⟩ (ptr w.heap.size)).setCell ⟨a, 2, none⟩ noS).setCell ⟨a, 3, none⟩ noP).drew).heap.size = w.heap.size + 2 by rw [← HZ2.out]; simp [World.setCell])
    clear A4
    go_region
    all_goals (go_wp2_with fail)
    generalize (((w2.setCell ⟨w.heap.size + 1, 2, none⟩ (ptr w.heap.size)).setCell ⟨a, 2, none⟩ noS).setCell ⟨a, 3, none⟩ noP).drew = w5 at *
    refine (add_empty w.heap.size v p (ptr g) _ _ _ _ w5 HK5.out).mono ?_
    rintro e w6 ⟨rfl, hb6, hs6, hu6⟩
    have HE := Lib.hid hb6
    have HS := Lib.hid hs6
    have HV := Lib.hid hu6
    clear hb6 hs6 hu6
    go_wp2
    go_end0
    exact ⟨rfl, HA5.out.upd HV.out (by omega), HT5.out.upd HV.out (by omega), HE.out, by rw [HS.out]; exact HZ5.out, HU5.out.trans HV.out (fun k hk e => by omega)⟩
set_option maxRecDepth 100000 in
set_option maxHeartbeats 1600000 in
/-- The first key at the root. -/
theorem add_root_new (g T : Nat) (v : ByteArray) (p : Int) (w : World) (g2 : w.cell? ⟨g, 2, none⟩ = some noS) (g4 : w.cell? ⟨g, 4, none⟩ = some (tab T)) (g42 : w.cell? ⟨g, 42, none⟩ = some (.int .u8 0))
    (hT : Blk w T tP #[noP, noP, noP, noP, noP]) (hgT : g ≠ T) (hg : g < w.heap.size) :
    Calls Tryz.prog 212 #[ptr g, .string ⟨#[36, 64]⟩, .string v, .int .i64 p, ptr g] w fun e w' => e = .returned (.tuple #[]) ∧ Blk w' T tP #[ptr w.heap.size, noP, noP, noP, noP] ∧ Blk w' w.heap.size tN #[noS, .int .i64 0, .string ⟨#[64]⟩, ptr (w.heap.size + 1), noT] ∧ Blk w' (w.heap.size + 1) tN (leaf v p) ∧ w'.heap.size = w.heap.size + 2 ∧ Upd w w' (fun k => k = T) := by
  have d0 : w.cell? ⟨T, 0, none⟩ = some noP := hT.cell 0
  have e0 := hT.free 0
  have p0 : (w.alloc (.cells (leaf ⟨#[]⟩ 0) tN)).cell? ⟨T, 0, none⟩ = some noP := (hT.alloc (.cells (leaf ⟨#[]⟩ 0) tN)).cell 0
  have p0f := (hT.alloc (.cells (leaf ⟨#[]⟩ 0) tN)).free 0
  have hlt := hT.lt
  have hx : (⟨#[36, 64]⟩ : ByteArray).extract 1 2 = ⟨#[64]⟩ := rfl
  have hi : (⟨#[36, 64]⟩ : ByteArray)[0].toNat = 36 := rfl
  have bT := ((hT.set 0 (ptr w.heap.size)).alloc (.cells (leaf ⟨#[]⟩ 0) tN)).drew
  have bn : Blk ((w.setCell ⟨T, 0, none⟩ (ptr w.heap.size)).alloc (.cells (leaf ⟨#[]⟩ 0) tN)).drew w.heap.size tN (leaf ⟨#[]⟩ 0) := by
    have := Blk.new (w.setCell ⟨T, 0, none⟩ (ptr w.heap.size)) tN (leaf ⟨#[]⟩ 0)
    rw [show (w.setCell ⟨T, 0, none⟩ (ptr w.heap.size)).heap.size = w.heap.size by simp [World.setCell]] at this
    exact this.drew
  have U := (((((Upd.refl w (fun k => k = T)).set (b := T) (i := 0) (.inr rfl) (ptr w.heap.size)).alloc (.cells (leaf ⟨#[]⟩ 0) tN))).drew)
  have G := U.block g hg (by omega)
  have s4 : ((w.setCell ⟨T, 0, none⟩ (ptr w.heap.size)).alloc (.cells (leaf ⟨#[]⟩ 0) tN)).drew.cell? ⟨g, 4, none⟩ = some (tab T) := (World.cell?_of_block (w := w) (a := ⟨g, 4, none⟩) G).trans g4
  have r0 : ((w.setCell ⟨T, 0, none⟩ (ptr w.heap.size)).alloc (.cells (leaf ⟨#[]⟩ 0) tN)).drew.cell? ⟨T, 0, none⟩ = some (ptr w.heap.size) := bT.cell 0
  have HZ := Lib.hid (show ((w.setCell ⟨T, 0, none⟩ (ptr w.heap.size)).alloc (.cells (leaf ⟨#[]⟩ 0) tN)).drew.heap.size = w.heap.size + 1 by simp [World.setCell])
  have HU := Lib.hid U
  have HT := Lib.hid bT
  have HN := Lib.hid bn
  clear hT bT bn U G
  go_enter Tryz.func212, Tryz.ntmps212
  go_wp2
  go_region
  all_goals (go_wp2_with fail)
  generalize ((w.setCell ⟨T, 0, none⟩ (ptr w.heap.size)).alloc (.cells (leaf ⟨#[]⟩ 0) tN)).drew = w3 at *
  have HN3 := Lib.hid (HN.out.drew)
  go_region_with
    (first
      | (go_at_call 212; refine (add_fresh w.heap.size 64 v p (ptr g) w3.drew HN3.out).mono ?_; rintro e w4 ⟨rfl, ha4, hb4, hs4, hu4⟩; have HD := Lib.hid ha4; have HE := Lib.hid hb4; have HS := Lib.hid hs4; have HV := Lib.hid hu4; clear ha4 hb4 hs4 hu4))
  all_goals go_wp2
  all_goals go_end0
  all_goals (
    have hz : w3.drew.heap.size = w.heap.size + 1 := HZ.out
    have h1 := HD.out
    have h2 := HE.out
    have h3 := HS.out
    rw [hz] at h1 h2 h3
    exact ⟨rfl, HT.out.drew.upd HV.out (by omega), h1, h2, h3, HU.out.drew.trans HV.out (fun k hk e => by omega)⟩)

set_option maxRecDepth 100000 in
set_option maxHeartbeats 1600000 in
/-- A later key at the root. -/
theorem add_root_old (g T A : Nat) (c : UInt8) (v : ByteArray) (p : Int) (w : World) (Q : World → Prop) (g2 : w.cell? ⟨g, 2, none⟩ = some noS) (g4 : w.cell? ⟨g, 4, none⟩ = some (tab T)) (g42 : w.cell? ⟨g, 42, none⟩ = some (.int .u8 0))
    (t0 : w.cell? ⟨T, 0, none⟩ = some (ptr A))
    (hs : Calls Tryz.prog 212 #[ptr A, .string ⟨#[c]⟩, .string v, .int .i64 p, ptr g] w.drew.drew fun e w' => e = .returned (.tuple #[]) ∧ Q w') :
    Calls Tryz.prog 212 #[ptr g, .string ⟨#[36, c]⟩, .string v, .int .i64 p, ptr g] w fun e w' => e = .returned (.tuple #[]) ∧ Q w' := by
  have hx : (⟨#[36, c]⟩ : ByteArray).extract 1 2 = ⟨#[c]⟩ := rfl
  have hz : (⟨#[36, c]⟩ : ByteArray).size = 2 := rfl
  have hi : ((⟨#[36, c]⟩ : ByteArray)[0]'(by rw [hz]; decide)).toNat = 36 := rfl
  have hne : ((⟨#[36, c]⟩ : ByteArray) == ⟨#[]⟩) = false := by
    apply beq_false_of_ne
    intro e
    have := congrArg ByteArray.size e
    simp [ByteArray.size] at this
  have HC := Lib.hid hs
  clear hs
  go_enter Tryz.func212, Tryz.ntmps212
  go_wp2
  go_region
  all_goals (go_wp2_with fail)
  go_region_with
    (first
      | (go_at_call 212; refine HC.out.mono ?_; rintro e w4 ⟨rfl, hq⟩; have HQ := Lib.hid hq; clear hq))
  all_goals go_wp2
  all_goals go_end0
  all_goals exact ⟨rfl, HQ.out⟩
end Go.Proofs.YtlkpbpecgdphaaaGreatDoor
