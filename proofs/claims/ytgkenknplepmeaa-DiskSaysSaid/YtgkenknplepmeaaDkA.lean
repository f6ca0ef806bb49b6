/-
  WALKS: package disk: has, step, Arm, Sectors, New, Read.
-/
import Derived.Test.YtgkenknplepmeaaDk
import Derived.Laws.IdiomStrings
import Derived.Lib.ConvBytes
import Derived.Lib.LazyBuf
namespace Go.Proofs.Ytgkenknplepmeaa
open Go.RowKit

/-- An error by its number: nil for 0. -/
def erV (k : Int) : Value := if k = 0 then .nilIface else .iface 96 (.int .i64 k)

set_option maxRecDepth 100000 in
theorem has_any (base p B : Nat) (V : Nat → Value) (D : Dk) (at_ : Int) (w : World) (h : DkAt w base p B V D) :
    Calls Try.prog 60 #[ptr p, .int .i64 at_] w fun e w' => e = .returned (.bool (hasR D at_)) ∧ w = w' := by
  have c0 : w.cell? ⟨p, 0, none⟩ = some (.slice (some ⟨B, 0, none⟩) D.n D.n) := h.dk.cell 0
  unfold hasR
  clear h
  by_cases h0 : 0 ≤ at_
  · have e0 : decide (0 ≤ at_) = true := decide_eq_true h0
    by_cases h1 : at_ < D.n
    · have e1 : decide (at_ < (D.n : Int)) = true := decide_eq_true h1
      rw [e0, e1]
      go_enter Try.func60, Try.ntmps60
      go_wp2
      go_ret
      exact ⟨rfl, rfl⟩
    · have e1 : decide (at_ < (D.n : Int)) = false := decide_eq_false h1
      rw [e0, e1]
      go_enter Try.func60, Try.ntmps60
      go_wp2
      go_ret
      exact ⟨rfl, rfl⟩
  · have e0 : decide (0 ≤ at_) = false := decide_eq_false h0
    rw [e0]
    go_enter Try.func60, Try.ntmps60
    go_wp2
    go_ret
    exact ⟨rfl, rfl⟩

set_option maxRecDepth 100000 in
theorem sectors_any (base p B : Nat) (V : Nat → Value) (D : Dk) (w : World) (h : DkAt w base p B V D) :
    Calls Try.prog 17 #[ptr p] w fun e w' => e = .returned (.int .i64 D.n) ∧ w = w' := by
  have c0 : w.cell? ⟨p, 0, none⟩ = some (.slice (some ⟨B, 0, none⟩) D.n D.n) := h.dk.cell 0
  clear h
  go_enter Try.func17, Try.ntmps17
  go_wp2
  go_ret
  exact ⟨rfl, rfl⟩

theorem upd_setp {w : World} {p i : Nat} (u : Value) : Upd w (w.setCell ⟨p, i, none⟩ u) (fun k => k = p) := (Upd.refl w (fun k => k = p)).set (b := p) (.inr rfl) u
theorem DkAt.upd {w w' : World} {base p B : Nat} {V : Nat → Value} {D : Dk} (h : DkAt w base p B V D) (left : Int) (down : Bool) (next : Nat) (hn : next < 64)
    (hd : Blk w' p tDk #[.slice (some ⟨B, 0, none⟩) D.n D.n, .int .i64 left, .bool down, .int .i64 next]) (hu : Upd w w' (fun k => k = p)) : DkAt w' base p B V { D with left := left, down := down, next := next } :=
  h.struct left down next hn hd (fun k _ hk hne => hu.block k hk hne)

set_option maxRecDepth 100000 in
theorem step_any (base p B : Nat) (V : Nat → Value) (D : Dk) (w : World) (h : DkAt w base p B V D) (hl : -9223372036854775808 ≤ D.left ∧ D.left ≤ 9223372036854775807) :
    Calls Try.prog 61 #[ptr p] w fun e w' => e = .returned (erV (stepR D).2) ∧ DkAt w' base p B V (stepR D).1 ∧ Upd w w' (fun k => k = p) := by
  obtain ⟨n, sec, left, dn, next⟩ := D
  dsimp only at hl
  have c1 : w.cell? ⟨p, 1, none⟩ = some (.int .i64 left) := h.dk.cell 1
  have c2 : w.cell? ⟨p, 2, none⟩ = some (.bool dn) := h.dk.cell 2
  have f1 := h.dk.free 1
  have f2 := h.dk.free 2
  have HD := Lib.hid h
  obtain ⟨hl1, hl2⟩ := hl
  unfold stepR
  dsimp only
  clear h
  by_cases h0 : left = 0
  · subst h0
    rw [if_pos (.inl rfl)]
    have c2' : (w.setCell ⟨p, 2, none⟩ (.bool true)).cell? ⟨p, 2, none⟩ = some (.bool true) := (HD.out.dk.set 2 (.bool true)).cell 2
    have HU := Lib.hid (upd_setp (w := w) (p := p) (i := 2) (.bool true))
    have HB := Lib.hid (HD.out.dk.set 2 (.bool true))
    go_enter Try.func61, Try.ntmps61
    go_wp2
    go_ret
    exact ⟨rfl, HD.out.upd _ _ _ HD.out.nx HB.out HU.out, HU.out⟩
  · have e0 : (left == 0) = false := by rw [beq_eq_false_iff_ne]; exact h0
    cases dn with
    | true =>
      rw [if_pos (.inr rfl)]
      clear h0
      go_enter Try.func61, Try.ntmps61
      go_wp2
      go_ret
      exact ⟨rfl, HD.out, Upd.refl _ _⟩
    | false =>
      rw [if_neg (by rintro (h | h); exact h0 h; cases h)]
      by_cases hp : 0 < left
      · rw [if_pos hp]
        have HU := Lib.hid (upd_setp (w := w) (p := p) (i := 1) (.int .i64 (left - 1)))
        have HB := Lib.hid (HD.out.dk.set 1 (.int .i64 (left - 1)))
        clear h0
        go_enter Try.func61, Try.ntmps61
        go_wp2
        go_ret
        exact ⟨rfl, HD.out.upd _ _ _ HD.out.nx HB.out HU.out, HU.out⟩
      · rw [if_neg hp]
        have e1 : decide (0 < left) = false := decide_eq_false hp
        clear h0
        go_enter Try.func61, Try.ntmps61
        go_wp2
        go_ret
        exact ⟨rfl, HD.out, Upd.refl _ _⟩

theorem below_cells {B b : Nat} {a : World} (hb : B ≤ b) : ∀ (vs : List Value) (o : Nat) (w : World), Below B a w → Below B a (w.setCells b o vs)
  | [], _, _, h => h
  | v :: r, o, w, h => below_cells hb r (o + 1) _ (h.setCell (by simpa using hb) v)
theorem strCells_at (t : ByteArray) (j : Nat) (hj : j < t.size) : (Lib.strCells t)[j]? = some (.int .u8 ((t.data.toList[j]'(by simpa using hj)).toNat : Int)) := by
  simp [Lib.strCells, hj]
/-- A new disk. -/
def newD (n : Nat) : Dk := ⟨n, fun _ => ⟨⟨Array.replicate 340 0⟩, []⟩, -1, false, 0⟩
theorem se_info : (Try.prog.info? tSe).map (·.size) = some 341 := by kernel_rfl
theorem wt_info : (Try.prog.info? tWt).map (·.size) = some 341 := by kernel_rfl
theorem bk_info : (Try.prog.info? tBk).map (·.size) = some 340 := by kernel_rfl
theorem nought_cells (k : Nat) : Lib.strCells ⟨Array.replicate k 0⟩ = List.replicate k (.int .u8 0) := by
  simp [Lib.strCells]
def seZ : Value := .agg (seC ⟨Array.replicate 340 0⟩ (.slice none 0 0)).toArray
theorem se_zero : (Try.prog.info? tSe).map (fun i => (i.zero, i.size)) = some (some seZ, 341) := by kernel_rfl
theorem se_parts : ∃ i, Try.prog.info? tSe = some i ∧ i.zero = some seZ ∧ i.size = 341 ∧ i.bytes = 368 := by
  have h : (Try.prog.info? tSe).map (fun i => (i.zero, i.size, i.bytes)) = some (some seZ, 341, 368) := by kernel_rfl
  cases e : Try.prog.info? tSe with
  | none => rw [e] at h; cases h
  | some i =>
    rw [e] at h
    simp only [Option.map_some, Option.some.injEq, Prod.mk.injEq] at h
    exact ⟨i, rfl, h.1, h.2.1, h.2.2⟩
theorem made_row (n i : Nat) (hi : i < n) (w : World) : (w.alloc (.cells (madeCells seZ.cells (n * 341)) tSe)).rangeAt w.heap.size (i * 341) (seC ⟨Array.replicate 340 0⟩ (.slice none 0 0)) := by
  intro j v hv
  have hj : j < 341 := by have := (List.getElem?_eq_some_iff.1 hv).1; rwa [seC_len _ (by simp [ByteArray.size])] at this
  rw [(Blk.new w tSe _).cell]
  have hz : seZ.cells = (seC ⟨Array.replicate 340 0⟩ (.slice none 0 0)).toArray := rfl
  have hlen : (seC ⟨Array.replicate 340 0⟩ (.slice none 0 0)).length = 341 := seC_len _ (by simp [ByteArray.size])
  have hlt : i * 341 + j < n * 341 := by have := Nat.mul_le_mul_right 341 (show i + 1 ≤ n from hi); omega
  rw [Array.getElem?_eq_getElem (by rw [size_madeCells]; exact hlt)]
  simp only [madeCells, Array.getElem_map, Array.getElem_range]
  rw [hz, List.size_toArray, hlen, show (i * 341 + j) % 341 = j by omega]
  rw [← hv, List.getElem!_toArray, List.getElem?_eq_getElem (by omega), getElem!_pos _ _ (by omega)]

set_option maxRecDepth 100000 in
set_option maxHeartbeats 1000000 in
theorem new_good (n : Nat) (w : World) (h1 : 1 ≤ n) (h2 : n ≤ 120) :
    Calls Try.prog 14 #[.int .i64 n] w fun e w' => e = .returned (.tuple #[ptr (w.heap.size + 1), .nilIface]) ∧ DkAt w' w.heap.size (w.heap.size + 1) w.heap.size (fun _ => .slice none 0 0) (newD n) ∧ Below w.heap.size w w' := by
  obtain ⟨i, hi, hz, hsz, hby⟩ := se_parts
  have hmk := run_make (P := Try.prog) w 97 tSe i seZ Try.underlying97 hi hz .i64 .i64 n n (by omega) (by omega) (by rw [hby]; omega) (by omega)
  rw [hsz, show ((n : Int)).toNat = n from rfl] at hmk
  have d1 : decide ((n : Int) < 1) = false := decide_eq_false (by omega)
  have d2 : decide ((120 : Int) < (n : Int)) = false := decide_eq_false (by omega)
  have HB := Lib.hid (show Below w.heap.size w ((w.alloc (.cells (madeCells seZ.cells (n * 341)) tSe)).alloc (.cells #[.slice (some ⟨w.heap.size, 0, none⟩) n n, .int .i64 (-1), .bool false, .int .i64 0] tDk)) from ((Below.refl _ _).alloc (Nat.le_refl _) _).alloc (by simp) _)
  have HD := Lib.hid (show DkAt ((w.alloc (.cells (madeCells seZ.cells (n * 341)) tSe)).alloc (.cells #[.slice (some ⟨w.heap.size, 0, none⟩) n n, .int .i64 (-1), .bool false, .int .i64 0] tDk)) w.heap.size (w.heap.size + 1) w.heap.size (fun _ => .slice none 0 0) (newD n) from
    ⟨by omega, by omega, by have := Blk.new (w.alloc (.cells (madeCells seZ.cells (n * 341)) tSe)) tDk #[.slice (some ⟨w.heap.size, 0, none⟩) n n, .int .i64 (-1), .bool false, .int .i64 0]; rw [show (w.alloc (.cells (madeCells seZ.cells (n * 341)) tSe)).heap.size = w.heap.size + 1 by simp] at this; exact this,
     ⟨_, (Blk.new w tSe _).alloc _, by rw [size_madeCells]; show n * 341 = n * 341; rfl⟩, fun i hi => World.rangeAt_alloc (made_row n i hi w) _,
     fun i hi => World.ownsRow_nil _ _ _ _, fun i j g _ _ h => (by cases h), fun i hi => (show (⟨Array.replicate 340 0⟩ : ByteArray).size = 340 from by simp [ByteArray.size]), fun i hi x hx => (by cases hx), h1, h2, by show 0 < 64; omega⟩)
  clear hi hz hsz hby
  generalize madeCells seZ.cells (n * 341) = mc at *
  go_enter Try.func14, Try.ntmps14
  go_wp2
  go_ret2
  exact ⟨rfl, HD.out, HB.out⟩
set_option maxRecDepth 100000 in
theorem new_bad (n : Int) (w : World) (h : n < 1 ∨ 120 < n) :
    Calls Try.prog 14 #[.int .i64 n] w fun e w' => e = .returned (.tuple #[.pointer none, erV 1]) ∧ w = w' := by
  by_cases h1 : n < 1
  · go_enter Try.func14, Try.ntmps14
    go_wp2
    go_ret2
    exact ⟨rfl, rfl⟩
  · have h2 : 120 < n := by omega
    have d1 : decide (n < 1) = false := decide_eq_false h1
    go_enter Try.func14, Try.ntmps14
    go_wp2
    go_ret2
    exact ⟨rfl, rfl⟩

end Go.Proofs.Ytgkenknplepmeaa
