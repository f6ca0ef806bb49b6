/-
  WALKS: package disk: has, step, Arm, Sectors, New, Read.
-/
import Derived.Test.YtgkenknplepmeaaApp
import Derived.Deep.MidRow
import Derived.Deep.Upon
import Derived.Lib.AppendStr
import Derived.Lib.Builder
import Derived.Laws.IdiomStrings
import Derived.Lib.ConvBytes
import Derived.Lib.LazyBuf
namespace Go.Proofs.Ytgkenknplepmeaa
open Go.RowKit

abbrev SW := List (Nat × ByteArray)
abbrev tDk : TypeId := 99
abbrev tSe : TypeId := 110
abbrev tWt : TypeId := 106
abbrev tBk : TypeId := 104
/-- A write's cells; a sector's cells. -/
def wrC (x : Nat × ByteArray) : List Value := .int .i64 x.1 :: Lib.strCells x.2
def wsC (l : SW) : List Value := l.flatMap wrC
def seC (d : ByteArray) (v : Value) : List Value := Lib.strCells d ++ [v]
theorem wrC_len {x : Nat × ByteArray} (h : x.2.size = 340) : (wrC x).length = 341 := by simp [wrC, Lib.strCells_length, h]
theorem seC_len {d : ByteArray} (v : Value) (h : d.size = 340) : (seC d v).length = 341 := by simp [seC, Lib.strCells_length, h]
theorem wsC_len : ∀ {l : SW}, (∀ x ∈ l, x.2.size = 340) → (wsC l).length = l.length * 341
  | [], _ => rfl
  | x :: r, h => by
    have h1 := wrC_len (h x (by simp))
    have h2 := wsC_len (l := r) (fun y hy => h y (by simp [hy]))
    simp only [wsC, List.flatMap_cons, List.length_append, List.length_cons] at h2 ⊢
    rw [h1, h2]; omega
theorem wsC_at : ∀ {l : SW} {k : Nat} {x : Nat × ByteArray}, (∀ x ∈ l, x.2.size = 340) → l[k]? = some x → ∀ j v, (wrC x)[j]? = some v → (wsC l)[k * 341 + j]? = some v
  | [], k, x, _, h => by simp at h
  | y :: r, 0, x, hs, h => by
    intro j v hv
    obtain rfl : y = x := by simpa using h
    have hj : j < (wrC y).length := (List.getElem?_eq_some_iff.1 hv).1
    simp only [wsC, List.flatMap_cons, Nat.zero_mul, Nat.zero_add]
    rw [List.getElem?_append_left hj]
    exact hv
  | y :: r, k + 1, x, hs, h => by
    intro j v hv
    have h1 := wrC_len (hs y (by simp))
    have ih := wsC_at (l := r) (k := k) (x := x) (fun z hz => hs z (by simp [hz])) (by simpa using h) j v hv
    simp only [wsC, List.flatMap_cons] at ih ⊢
    rw [List.getElem?_append_right (by rw [h1]; omega), h1, show (k + 1) * 341 + j - 341 = k * 341 + j by omega]
    exact ih
theorem strCells_one (d : ByteArray) : ∀ u ∈ Lib.strCells d, u.oneCell' = true := Lib.strCells_oneCell d
theorem wrC_one (x : Nat × ByteArray) : ∀ u ∈ wrC x, u.oneCell' = true := by
  intro u hu
  rcases List.mem_cons.1 hu with rfl | h
  · rfl
  · exact Lib.strCells_oneCell _ u h

structure Sec where
  dur : ByteArray
  ws : SW
structure Dk where
  n : Nat
  sec : Nat → Sec
  left : Int
  down : Bool
  next : Nat
/-- What a sector reads as now. -/
def nowB (s : Sec) : ByteArray := match s.ws.getLast? with
  | some x => x.2
  | none => s.dur
/-- A disk in memory: its struct at block p, its sectors at block B, the writes of sector i behind the slice V i; all at base or above. -/
structure DkAt (w : World) (base p B : Nat) (V : Nat → Value) (D : Dk) : Prop where
  hp : base ≤ p
  hB : base ≤ B
  dk : Blk w p tDk #[.slice (some ⟨B, 0, none⟩) D.n D.n, .int .i64 D.left, .bool D.down, .int .i64 D.next]
  se : ∃ cs, Blk w B tSe cs ∧ cs.size = D.n * 341
  row : ∀ i, i < D.n → w.rangeAt B (i * 341) (seC (D.sec i).dur (V i))
  own : ∀ i, i < D.n → w.ownsRow base tWt 341 (V i) (D.sec i).ws.length (wsC (D.sec i).ws)
  sep : ∀ i j g, i < D.n → j < D.n → (V i).ownBlock = some g → (V j).ownBlock = some g → i = j
  szd : ∀ i, i < D.n → (D.sec i).dur.size = 340
  szw : ∀ i, i < D.n → ∀ x ∈ (D.sec i).ws, x.2.size = 340 ∧ x.1 < 64
  n1 : 1 ≤ D.n
  n2 : D.n ≤ 120
  nx : D.next < 64
section
variable {w w' : World} {base p B : Nat} {V : Nat → Value} {D : Dk}
theorem DkAt.ltp (h : DkAt w base p B V D) : p < w.heap.size := h.dk.lt
theorem DkAt.ltB (h : DkAt w base p B V D) : B < w.heap.size := by obtain ⟨cs, hb, _⟩ := h.se; exact hb.lt
theorem Blk.ne {b b' : Nat} {t t' : TypeId} {cs cs' : Array Value} (h : Blk w b t cs) (h' : Blk w b' t' cs') (ht : t ≠ t') : b ≠ b' := by
  rintro rfl
  unfold Blk at h h'
  rw [h] at h'
  injection h' with h'
  injection h' with _ h' _
  exact ht h'
theorem own_block_ne {s : Nat} {e T : TypeId} {v : Value} {n b : Nat} {xs : List Value} {cs : Array Value} (h : w.ownsRow base e s v n xs) (hb : Blk w b T cs) (ht : T ≠ e) : v.ownBlock ≠ some b := by
  rcases h.2 with ⟨rfl, _⟩ | ⟨g, cap, cur, rfl, _, hg, _⟩
  · intro e; cases e
  · intro e
    obtain rfl : g = b := by injection e
    unfold Blk at hb
    rw [hg] at hb
    injection hb with hb
    injection hb with _ hb _
    exact ht hb.symm
theorem DkAt.pB (h : DkAt w base p B V D) : p ≠ B := by obtain ⟨cs, hb, _⟩ := h.se; exact h.dk.ne hb (by decide)
theorem DkAt.Vp (h : DkAt w base p B V D) {i : Nat} (hi : i < D.n) : (V i).ownBlock ≠ some p := own_block_ne (h.own i hi) h.dk (by decide)
theorem DkAt.VB (h : DkAt w base p B V D) {i : Nat} (hi : i < D.n) : (V i).ownBlock ≠ some B := by obtain ⟨cs, hb, _⟩ := h.se; exact own_block_ne (h.own i hi) hb (by decide)
theorem DkAt.Vlt (h : DkAt w base p B V D) {i g : Nat} (hi : i < D.n) (hg : (V i).ownBlock = some g) : base ≤ g ∧ g < w.heap.size := (h.own i hi).lt g hg
theorem rangeAt_block {b o : Nat} {cs : List Value} (h : w.rangeAt b o cs) (hb : w'.heap[b]? = w.heap[b]?) : w'.rangeAt b o cs := fun j v hv => (World.cell?_of_block (w := w) (a := ⟨b, o + j, none⟩) hb).trans (h j v hv)
theorem ownsRow_block {e : TypeId} {s : Nat} {v : Value} {n : Nat} {xs : List Value} (h : w.ownsRow base e s v n xs) (hb : ∀ g, v.ownBlock = some g → w'.heap[g]? = w.heap[g]?) : w'.ownsRow base e s v n xs := by
  refine ⟨h.1, ?_⟩
  rcases h.2 with h2 | ⟨g, cap, cur, rfl, h3, h4, h5⟩
  · exact .inl h2
  · exact .inr ⟨g, cap, cur, rfl, h3, (hb g rfl).trans h4, h5⟩
/-- The disk stands where the blocks that it has stand. -/
theorem DkAt.keep (h : DkAt w base p B V D) (hk : ∀ k, base ≤ k → k < w.heap.size → w'.heap[k]? = w.heap[k]?) : DkAt w' base p B V D := by
  obtain ⟨cs, hb, hz⟩ := h.se
  exact ⟨h.hp, h.hB, (hk p h.hp h.ltp).trans h.dk, ⟨cs, (hk B h.hB h.ltB).trans hb, hz⟩, fun i hi => rangeAt_block (h.row i hi) (hk B h.hB h.ltB),
    fun i hi => ownsRow_block (h.own i hi) (fun g hg => hk g (h.Vlt hi hg).1 (h.Vlt hi hg).2), h.sep, h.szd, h.szw, h.n1, h.n2, h.nx⟩
theorem DkAt.there (h : DkAt w base p B V D) {i : Nat} (hi : i < D.n) : w.there B (i * 341) 341 := by
  obtain ⟨cs, hb, hz⟩ := h.se
  intro j hj
  refine ⟨?_, hb.free _⟩
  rw [hb.cell]
  have : i * 341 + j < cs.size := by rw [hz]; have := Nat.mul_le_mul_right 341 (show i + 1 ≤ D.n from hi); omega
  rw [Array.getElem?_eq_getElem this]
  rfl
end
/-- Whatever block is none of a disk's stands. -/
def Ty (w w' : World) : Prop := ∀ g t cs, Blk w g t cs → t ≠ tDk → t ≠ tSe → t ≠ tWt → Blk w' g t cs
theorem Ty.refl (w : World) : Ty w w := fun _ _ _ h _ _ _ => h
theorem Ty.trans {a b c : World} (h : Ty a b) (k : Ty b c) : Ty a c := fun g t cs hb h1 h2 h3 => k g t cs (h g t cs hb h1 h2 h3) h1 h2 h3
theorem Ty.of_below {w w' : World} (h : Below w.heap.size w w') : Ty w w' := fun g _ _ hb _ _ _ => (h.block g hb.lt).trans hb
theorem Ty.of_upd {w w' : World} {p : Nat} {cs : Array Value} (hp : Blk w p tDk cs) (h : Upd w w' (fun k => k = p)) : Ty w w' := fun g _ _ hb h1 _ _ => (h.block g hb.lt (fun e => by subst e; exact hb.ne hp h1 rfl)).trans hb
theorem Ty.setB {w : World} {B i : Nat} {cs : Array Value} (hB : Blk w B tSe cs) (v : Value) : Ty w (w.setCell ⟨B, i, none⟩ v) := fun g _ _ hb _ h2 _ => hb.other (fun e => by subst e; exact hb.ne hB h2 rfl) v
theorem Ty.setP {w : World} {p i : Nat} {cs : Array Value} (hp : Blk w p tDk cs) (v : Value) : Ty w (w.setCell ⟨p, i, none⟩ v) := fun g _ _ hb h1 _ _ => hb.other (fun e => by subst e; exact hb.ne hp h1 rfl) v
theorem Ty.grown {w w' : World} {base n s : Nat} {v : Value} {xs : List Value} (ho : w.ownsRow base tWt s v n xs) (hg : w.grownBy w' v.ownBlock) : Ty w w' := fun g _ _ hb _ _ h3 => hb.grown hg (own_block_ne ho hb h3)
theorem Ty.alloc (w : World) (o : Obj) : Ty w (w.alloc o) := fun _ _ _ hb _ _ _ => hb.alloc o
theorem Ty.drew {w w' : World} (h : Ty w w') : Ty w w'.drew := h
/-- Only the struct's cells turn. -/
theorem DkAt.struct {w w' : World} {base p B : Nat} {V : Nat → Value} {D : Dk} (h : DkAt w base p B V D) (left : Int) (down : Bool) (next : Nat) (hn : next < 64)
    (hd : Blk w' p tDk #[.slice (some ⟨B, 0, none⟩) D.n D.n, .int .i64 left, .bool down, .int .i64 next]) (hk : ∀ k, base ≤ k → k < w.heap.size → k ≠ p → w'.heap[k]? = w.heap[k]?) :
    DkAt w' base p B V { D with left := left, down := down, next := next } := by
  obtain ⟨cs, hb, hz⟩ := h.se
  have eB := hk B h.hB h.ltB (fun e => h.pB e.symm)
  exact ⟨h.hp, h.hB, hd, ⟨cs, eB.trans hb, hz⟩, fun i hi => rangeAt_block (h.row i hi) eB,
    fun i hi => ownsRow_block (h.own i hi) (fun g hg => hk g (h.Vlt hi hg).1 (h.Vlt hi hg).2 (fun e => h.Vp hi (by rw [hg, e]))), h.sep, h.szd, h.szw, h.n1, h.n2, hn⟩

/-! What each call comes to. -/
def hasR (D : Dk) (at_ : Int) : Bool := decide (0 ≤ at_) && decide (at_ < D.n)
def stepR (D : Dk) : Dk × Int := if D.left = 0 ∨ D.down = true then ({ D with down := true }, 11) else ({ D with left := if 0 < D.left then D.left - 1 else D.left }, 0)
def readR (D : Dk) (at_ : Int) : ByteArray × Int := if D.down = true then (⟨#[]⟩, 11) else if hasR D at_ = true then (nowB (D.sec at_.toNat), 0) else (⟨#[]⟩, 1)
/-- A text, filled up with noughts. -/
def padB (s : ByteArray) : ByteArray := ⟨s.data ++ Array.replicate (340 - s.size) 0⟩
theorem padB_size {s : ByteArray} (h : s.size ≤ 340) : (padB s).size = 340 := by
  show (s.data ++ Array.replicate (340 - s.size) 0).size = 340
  rw [Array.size_append, Array.size_replicate]
  have : s.data.size = s.size := rfl
  omega
def updS (f : Nat → Sec) (i : Nat) (s : Sec) : Nat → Sec := fun j => if j = i then s else f j
def writeR (D : Dk) (at_ : Int) (s : ByteArray) : Dk × Int :=
  if hasR D at_ = false ∨ 340 < s.size then (D, 1)
  else if (stepR D).2 ≠ 0 then stepR D
  else ({ (stepR D).1 with sec := updS D.sec at_.toNat ⟨(D.sec at_.toNat).dur, (D.sec at_.toNat).ws ++ [(D.next, padB s)]⟩, next := (D.next + 1) % 64 }, 0)
/-- What stays of a sector. -/
def keepB (keep : Nat) (d : ByteArray) (l : SW) : ByteArray := l.foldl (fun d x => if keep.testBit x.1 then x.2 else d) d
def settleR (keep : Nat) (D : Dk) : Dk := { D with sec := fun i => ⟨keepB keep (D.sec i).dur (D.sec i).ws, []⟩, next := 0 }
/-- All bits. -/
def allK : Nat := 18446744073709551615
theorem allK_int : (allK : Int) = 18446744073709551615 := rfl
theorem allK_lt : allK < 2 ^ 64 := by decide
def flushR (D : Dk) : Dk × Int := if (stepR D).2 ≠ 0 then stepR D else (settleR allK (stepR D).1, 0)
def restartR (keep : Nat) (D : Dk) : Dk := { settleR keep D with left := -1, down := false }
end Go.Proofs.Ytgkenknplepmeaa
namespace Go.Proofs.Ytgkenknplepmeaa
open Go.RowKit

/-- An error by its number: nil for 0. -/
def erV (k : Int) : Value := if k = 0 then .nilIface else .iface 96 (.int .i64 k)

set_option maxRecDepth 100000 in
theorem has_any (base p B : Nat) (V : Nat → Value) (D : Dk) (at_ : Int) (w : World) (h : DkAt w base p B V D) :
    Calls Try.prog 60 #[ptr p, .int .i64 at_] w fun e w' => e = .returned (.bool (hasR D at_)) ∧ w = w' := by
  have c0 : w.cell? ⟨p, 0, none⟩ = some (.slice (some ⟨B, 0, none⟩) D.n D.n) := h.dk.cell 0
  unfold hasR
  clear h
  by_cases h0 : 0 ≤ at_
  · have e0 : decide (0 ≤ at_) = true := decide_eq_true h0
    by_cases h1 : at_ < D.n
    · have e1 : decide (at_ < (D.n : Int)) = true := decide_eq_true h1
      rw [e0, e1]
      go_enter Try.func60, Try.ntmps60
      go_wp2
      go_ret
      exact ⟨rfl, rfl⟩
    · have e1 : decide (at_ < (D.n : Int)) = false := decide_eq_false h1
      rw [e0, e1]
      go_enter Try.func60, Try.ntmps60
      go_wp2
      go_ret
      exact ⟨rfl, rfl⟩
  · have e0 : decide (0 ≤ at_) = false := decide_eq_false h0
    rw [e0]
    go_enter Try.func60, Try.ntmps60
    go_wp2
    go_ret
    exact ⟨rfl, rfl⟩

set_option maxRecDepth 100000 in
theorem sectors_any (base p B : Nat) (V : Nat → Value) (D : Dk) (w : World) (h : DkAt w base p B V D) :
    Calls Try.prog 17 #[ptr p] w fun e w' => e = .returned (.int .i64 D.n) ∧ w = w' := by
  have c0 : w.cell? ⟨p, 0, none⟩ = some (.slice (some ⟨B, 0, none⟩) D.n D.n) := h.dk.cell 0
  clear h
  go_enter Try.func17, Try.ntmps17
  go_wp2
  go_ret
  exact ⟨rfl, rfl⟩

theorem upd_setp {w : World} {p i : Nat} (u : Value) : Upd w (w.setCell ⟨p, i, none⟩ u) (fun k => k = p) := (Upd.refl w (fun k => k = p)).set (b := p) (.inr rfl) u
theorem DkAt.upd {w w' : World} {base p B : Nat} {V : Nat → Value} {D : Dk} (h : DkAt w base p B V D) (left : Int) (down : Bool) (next : Nat) (hn : next < 64)
    (hd : Blk w' p tDk #[.slice (some ⟨B, 0, none⟩) D.n D.n, .int .i64 left, .bool down, .int .i64 next]) (hu : Upd w w' (fun k => k = p)) : DkAt w' base p B V { D with left := left, down := down, next := next } :=
  h.struct left down next hn hd (fun k _ hk hne => hu.block k hk hne)

set_option maxRecDepth 100000 in
theorem step_any (base p B : Nat) (V : Nat → Value) (D : Dk) (w : World) (h : DkAt w base p B V D) (hl : -9223372036854775808 ≤ D.left ∧ D.left ≤ 9223372036854775807) :
    Calls Try.prog 61 #[ptr p] w fun e w' => e = .returned (erV (stepR D).2) ∧ DkAt w' base p B V (stepR D).1 ∧ Upd w w' (fun k => k = p) := by
  obtain ⟨n, sec, left, dn, next⟩ := D
  dsimp only at hl
  have c1 : w.cell? ⟨p, 1, none⟩ = some (.int .i64 left) := h.dk.cell 1
  have c2 : w.cell? ⟨p, 2, none⟩ = some (.bool dn) := h.dk.cell 2
  have f1 := h.dk.free 1
  have f2 := h.dk.free 2
  have HD := Lib.hid h
  obtain ⟨hl1, hl2⟩ := hl
  unfold stepR
  dsimp only
  clear h
  by_cases h0 : left = 0
  · subst h0
    rw [if_pos (.inl rfl)]
    have c2' : (w.setCell ⟨p, 2, none⟩ (.bool true)).cell? ⟨p, 2, none⟩ = some (.bool true) := (HD.out.dk.set 2 (.bool true)).cell 2
    have HU := Lib.hid (upd_setp (w := w) (p := p) (i := 2) (.bool true))
    have HB := Lib.hid (HD.out.dk.set 2 (.bool true))
    go_enter Try.func61, Try.ntmps61
    go_wp2
    go_ret
    exact ⟨rfl, HD.out.upd _ _ _ HD.out.nx HB.out HU.out, HU.out⟩
  · have e0 : (left == 0) = false := by rw [beq_eq_false_iff_ne]; exact h0
    cases dn with
    | true =>
      rw [if_pos (.inr rfl)]
      clear h0
      go_enter Try.func61, Try.ntmps61
      go_wp2
      go_ret
      exact ⟨rfl, HD.out, Upd.refl _ _⟩
    | false =>
      rw [if_neg (by rintro (h | h); exact h0 h; cases h)]
      by_cases hp : 0 < left
      · rw [if_pos hp]
        have HU := Lib.hid (upd_setp (w := w) (p := p) (i := 1) (.int .i64 (left - 1)))
        have HB := Lib.hid (HD.out.dk.set 1 (.int .i64 (left - 1)))
        clear h0
        go_enter Try.func61, Try.ntmps61
        go_wp2
        go_ret
        exact ⟨rfl, HD.out.upd _ _ _ HD.out.nx HB.out HU.out, HU.out⟩
      · rw [if_neg hp]
        have e1 : decide (0 < left) = false := decide_eq_false hp
        clear h0
        go_enter Try.func61, Try.ntmps61
        go_wp2
        go_ret
        exact ⟨rfl, HD.out, Upd.refl _ _⟩

theorem below_cells {B b : Nat} {a : World} (hb : B ≤ b) : ∀ (vs : List Value) (o : Nat) (w : World), Below B a w → Below B a (w.setCells b o vs)
  | [], _, _, h => h
  | v :: r, o, w, h => below_cells hb r (o + 1) _ (h.setCell (by simpa using hb) v)
theorem strCells_at (t : ByteArray) (j : Nat) (hj : j < t.size) : (Lib.strCells t)[j]? = some (.int .u8 ((t.data.toList[j]'(by simpa using hj)).toNat : Int)) := by
  simp [Lib.strCells, hj]
/-- A new disk. -/
def newD (n : Nat) : Dk := ⟨n, fun _ => ⟨⟨Array.replicate 340 0⟩, []⟩, -1, false, 0⟩
theorem se_info : (Try.prog.info? tSe).map (·.size) = some 341 := by kernel_rfl
theorem wt_info : (Try.prog.info? tWt).map (·.size) = some 341 := by kernel_rfl
theorem bk_info : (Try.prog.info? tBk).map (·.size) = some 340 := by kernel_rfl
theorem nought_cells (k : Nat) : Lib.strCells ⟨Array.replicate k 0⟩ = List.replicate k (.int .u8 0) := by
  simp [Lib.strCells]
def seZ : Value := .agg (seC ⟨Array.replicate 340 0⟩ (.slice none 0 0)).toArray
theorem se_zero : (Try.prog.info? tSe).map (fun i => (i.zero, i.size)) = some (some seZ, 341) := by kernel_rfl
theorem se_parts : ∃ i, Try.prog.info? tSe = some i ∧ i.zero = some seZ ∧ i.size = 341 ∧ i.bytes = 368 := by
  have h : (Try.prog.info? tSe).map (fun i => (i.zero, i.size, i.bytes)) = some (some seZ, 341, 368) := by kernel_rfl
  cases e : Try.prog.info? tSe with
  | none => rw [e] at h; cases h
  | some i =>
    rw [e] at h
    simp only [Option.map_some, Option.some.injEq, Prod.mk.injEq] at h
    exact ⟨i, rfl, h.1, h.2.1, h.2.2⟩
theorem made_row (n i : Nat) (hi : i < n) (w : World) : (w.alloc (.cells (madeCells seZ.cells (n * 341)) tSe)).rangeAt w.heap.size (i * 341) (seC ⟨Array.replicate 340 0⟩ (.slice none 0 0)) := by
  intro j v hv
  have hj : j < 341 := by have := (List.getElem?_eq_some_iff.1 hv).1; rwa [seC_len _ (by simp [ByteArray.size])] at this
  rw [(Blk.new w tSe _).cell]
  have hz : seZ.cells = (seC ⟨Array.replicate 340 0⟩ (.slice none 0 0)).toArray := rfl
  have hlen : (seC ⟨Array.replicate 340 0⟩ (.slice none 0 0)).length = 341 := seC_len _ (by simp [ByteArray.size])
  have hlt : i * 341 + j < n * 341 := by have := Nat.mul_le_mul_right 341 (show i + 1 ≤ n from hi); omega
  rw [Array.getElem?_eq_getElem (by rw [size_madeCells]; exact hlt)]
  simp only [madeCells, Array.getElem_map, Array.getElem_range]
  rw [hz, List.size_toArray, hlen, show (i * 341 + j) % 341 = j by omega]
  rw [← hv, List.getElem!_toArray, List.getElem?_eq_getElem (by omega), getElem!_pos _ _ (by omega)]

set_option maxRecDepth 100000 in
set_option maxHeartbeats 1000000 in
theorem new_good (n : Nat) (w : World) (h1 : 1 ≤ n) (h2 : n ≤ 120) :
    Calls Try.prog 14 #[.int .i64 n] w fun e w' => e = .returned (.tuple #[ptr (w.heap.size + 1), .nilIface]) ∧ DkAt w' w.heap.size (w.heap.size + 1) w.heap.size (fun _ => .slice none 0 0) (newD n) ∧ Below w.heap.size w w' := by
  obtain ⟨i, hi, hz, hsz, hby⟩ := se_parts
  have hmk := run_make (P := Try.prog) w 97 tSe i seZ Try.underlying97 hi hz .i64 .i64 n n (by omega) (by omega) (by rw [hby]; omega) (by omega)
  rw [hsz, show ((n : Int)).toNat = n from rfl] at hmk
  have d1 : decide ((n : Int) < 1) = false := decide_eq_false (by omega)
  have d2 : decide ((120 : Int) < (n : Int)) = false := decide_eq_false (by omega)
  have HB := Lib.hid (show Below w.heap.size w ((w.alloc (.cells (madeCells seZ.cells (n * 341)) tSe)).alloc (.cells #[.slice (some ⟨w.heap.size, 0, none⟩) n n, .int .i64 (-1), .bool false, .int .i64 0] tDk)) from ((Below.refl _ _).alloc (Nat.le_refl _) _).alloc (by simp) _)
  have HD := Lib.hid (show DkAt ((w.alloc (.cells (madeCells seZ.cells (n * 341)) tSe)).alloc (.cells #[.slice (some ⟨w.heap.size, 0, none⟩) n n, .int .i64 (-1), .bool false, .int .i64 0] tDk)) w.heap.size (w.heap.size + 1) w.heap.size (fun _ => .slice none 0 0) (newD n) from
    ⟨by omega, by omega, by have := Blk.new (w.alloc (.cells (madeCells seZ.cells (n * 341)) tSe)) tDk #[.slice (some ⟨w.heap.size, 0, none⟩) n n, .int .i64 (-1), .bool false, .int .i64 0]; rw [show (w.alloc (.cells (madeCells seZ.cells (n * 341)) tSe)).heap.size = w.heap.size + 1 by simp] at this; exact this,
     ⟨_, (Blk.new w tSe _).alloc _, by rw [size_madeCells]; show n * 341 = n * 341; rfl⟩, fun i hi => World.rangeAt_alloc (made_row n i hi w) _,
     fun i hi => World.ownsRow_nil _ _ _ _, fun i j g _ _ h => (by cases h), fun i hi => (show (⟨Array.replicate 340 0⟩ : ByteArray).size = 340 from by simp [ByteArray.size]), fun i hi x hx => (by cases hx), h1, h2, by show 0 < 64; omega⟩)
  clear hi hz hsz hby
  generalize madeCells seZ.cells (n * 341) = mc at *
  go_enter Try.func14, Try.ntmps14
  go_wp2
  go_ret2
  exact ⟨rfl, HD.out, HB.out⟩
set_option maxRecDepth 100000 in
theorem new_bad (n : Int) (w : World) (h : n < 1 ∨ 120 < n) :
    Calls Try.prog 14 #[.int .i64 n] w fun e w' => e = .returned (.tuple #[.pointer none, erV 1]) ∧ w = w' := by
  by_cases h1 : n < 1
  · go_enter Try.func14, Try.ntmps14
    go_wp2
    go_ret2
    exact ⟨rfl, rfl⟩
  · have h2 : 120 < n := by omega
    have d1 : decide (n < 1) = false := decide_eq_false h1
    go_enter Try.func14, Try.ntmps14
    go_wp2
    go_ret2
    exact ⟨rfl, rfl⟩

end Go.Proofs.Ytgkenknplepmeaa
