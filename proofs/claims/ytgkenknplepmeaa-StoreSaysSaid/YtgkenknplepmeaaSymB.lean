/-
  WALKS: slices.symMergeCmpFunc of changes where the right part has one element, and the left part more.
-/
import Derived.Test.YtgkenknplepmeaaCmp
namespace Go.Proofs.Ytgkenknplepmeaa
open Go.RowKit Go.Sort Go.Shelf

/-- The three cells of a place, and that they may be written. -/
structure Cel (W : World) (blk off i : Nat) (x : Ch) : Prop where
  c0 : W.cell? ⟨blk, off + i * 3, none⟩ = some (.string x.key)
  c1 : W.cell? ⟨blk, off + i * 3 + 1, none⟩ = some (.string x.val)
  c2 : W.cell? ⟨blk, off + i * 3 + 2, none⟩ = some (.bool x.gone)
  f0 : W.frozen? ⟨blk, off + i * 3, none⟩ = false
  f1 : W.frozen? ⟨blk, off + i * 3 + 1, none⟩ = false
  f2 : W.frozen? ⟨blk, off + i * 3 + 2, none⟩ = false
theorem Cel.of {W : World} {blk off : Nat} {d : Array Ch} {i : Nat} (h : HoldsK encC 3 W blk off d) (hi : i < d.size) : Cel W blk off i d[i]! :=
  ⟨(h.cell hi (c := 0) (by omega)).1, (h.cell hi (c := 1) (by omega)).1, (h.cell hi (c := 2) (by omega)).1, (h.cell hi (c := 0) (by omega)).2, (h.cell hi (c := 1) (by omega)).2, (h.cell hi (c := 2) (by omega)).2⟩
theorem SoW.holds {w : World} {blk off m : Nat} {d dk : Array Ch} {os : Array Obj} (hH : HoldsK encC 3 w blk off d) (hblk : blk < w.heap.size) (hs : dk.size = d.size) : HoldsK encC 3 (SoW w blk off m dk os) blk off dk := holdsK_sortWorldK_c encC 3 w blk off d dk m os hH hblk hs
theorem SoW.start {w : World} {blk off : Nat} {d : Array Ch} (hH : HoldsK encC 3 w blk off d) : w = SoW w blk off 0 d #[] := by
  unfold SoW sortWorldK; rw [grow_empty]; exact (putRowK_self encC 3 w blk off d hH).symm
theorem SoW.swap {w : World} {blk off m : Nat} {dk : Array Ch} {os : Array Obj} (hblk : blk < w.heap.size) {i j : Nat} (hi : i < dk.size) (hj : j < dk.size) :
    (((SoW w blk off m dk os).drew.setCells blk (off + i * 3) (encC dk[j]!)).setCells blk (off + j * 3) (encC dk[i]!)) = SoW w blk off (m + 1) (swp dk i j) os := sortWorldK_swp_c encC 3 w blk off encC_len m dk os hblk i j hi hj
theorem set6 (W : World) (blk p q : Nat) (x y : Ch) : ((((((W.setCell ⟨blk, p, none⟩ (.string y.key)).setCell ⟨blk, p + 1, none⟩ (.string y.val)).setCell ⟨blk, p + 2, none⟩ (.bool y.gone)).setCell ⟨blk, q, none⟩ (.string x.key)).setCell ⟨blk, q + 1, none⟩ (.string x.val)).setCell ⟨blk, q + 2, none⟩ (.bool x.gone)).drew = (W.drew.setCells blk p (encC y)).setCells blk q (encC x) := by
  have e : W.drew = W.drewN 1 := rfl
  rw [e, setCells_drewN, setCells_drewN]
  simp only [encC, World.setCells, Nat.add_assoc]
  rfl
/-- An exchange, as the walk spells it. -/
theorem SoW.swap6 {w wr : World} {blk off m : Nat} {dk : Array Ch} {os : Array Obj} (hw : wr = SoW w blk off m dk os) (hblk : blk < w.heap.size) {i j : Nat} (hi : i < dk.size) (hj : j < dk.size) {x y : Ch} (hx : x = dk[i]!) (hy : y = dk[j]!) :
    ((((((wr.setCell ⟨blk, off + i * 3, none⟩ (.string y.key)).setCell ⟨blk, off + i * 3 + 1, none⟩ (.string y.val)).setCell ⟨blk, off + i * 3 + 2, none⟩ (.bool y.gone)).setCell ⟨blk, off + j * 3, none⟩ (.string x.key)).setCell ⟨blk, off + j * 3 + 1, none⟩ (.string x.val)).setCell ⟨blk, off + j * 3 + 2, none⟩ (.bool x.gone)).drew = SoW w blk off (m + 1) (swp dk i j) os := by
  rw [set6, hw, hx, hy]; exact SoW.swap hblk hi hj

def SwrRel (w : World) (blk off a b n : Nat) (d : Array Ch) (i : Value) (wr : World) : Prop := ∃ (k m : Nat) (dk : Array Ch) (os : Array Obj), k ≤ n ∧ i = .int .i64 k ∧ wr = SoW w blk off m dk os ∧ Swr a b k d dk
set_option maxHeartbeats 4000000 in
set_option maxRecDepth 1000000 in
theorem swapRange_any (blk off cap a b n : Nat) (cmp : Value) (d : Array Ch) (w : World) (hH : HoldsK encC 3 w blk off d) (hblk : blk < w.heap.size) (hab : a + n ≤ b) (hb : b + n ≤ d.size) (hsz : d.size ≤ 1000000) :
    Calls Try.prog 119 #[.slice (some ⟨blk, off, none⟩) d.size cap, .int .i64 a, .int .i64 b, .int .i64 n, cmp] w fun e w' =>
      e = .returned (.tuple #[]) ∧ ∃ m d' os, w' = SoW w blk off m d' os ∧ Swr a b n d d' := by
  have HH := Lib.hid hH
  have HB := Lib.hid hblk
  clear hH hblk
  generalize hz : d.size = z at *
  have HZ := Lib.hid hz
  clear hz
  go_enter Try.func119, Try.ntmps119
  go_wp2
  go_loopw [10] (fun i wr => SwrRel w blk off a b n d i wr) (fun i _ => n - (intOf i).toNat)
  case atStart => exact ⟨0, 0, d, #[], Nat.zero_le _, rfl, SoW.start HH.out, Swr.zero _ _ _⟩
  case round =>
    obtain ⟨k, m, dk, os, hk, rfl, hw, hs⟩ := hrel
    have HS := Lib.hid hs
    have hdz : dk.size = d.size := hs.1
    by_cases hlt : k < n
    · have hHd : HoldsK encC 3 wr blk off dk := by rw [hw]; exact SoW.holds HH.out HB.out hdz
      obtain ⟨i0, i1, i2, p0, p1, p2⟩ := Cel.of hHd (show a + k < dk.size by rw [hdz, HZ.out]; omega)
      obtain ⟨j0, j1, j2, q0, q1, q2⟩ := Cel.of hHd (show b + k < dk.size by rw [hdz, HZ.out]; omega)
      have HW := Lib.hid hw
      have HD := Lib.hid hdz
      clear hw hs hdz hHd
      obtain ⟨xI, hcI⟩ : ∃ c, c = dk[a + k]! := ⟨_, rfl⟩
      obtain ⟨xJ, hcJ⟩ : ∃ c, c = dk[b + k]! := ⟨_, rfl⟩
      rw [← hcI] at i0 i1 i2
      rw [← hcJ] at j0 j1 j2
      have HC := Lib.hid (And.intro hcI hcJ)
      clear hcI hcJ
      have e1 : ((a : Int) + (k : Int)).toNat = a + k := by omega
      have e2 : ((b : Int) + (k : Int)).toNat = b + k := by omega
      have mixed : Try.prog.follows .mixedOrders = true := by kernel_rfl
      go_wp2_with fail
      go_big_region_o
      all_goals go_wp2
      go_roundw
      case rel => exact ⟨k + 1, m + 1, swp dk (a + k) (b + k), os, by omega, by go_num, SoW.swap6 HW.out HB.out (by rw [HD.out, HZ.out]; omega) (by rw [HD.out, HZ.out]; omega) HC.out.1 HC.out.2, HS.out.step (by omega) (by rw [HZ.out]; omega)⟩
      case measure => simp [intOf]; omega
    · obtain rfl : k = n := by omega
      go_wp2
      go_end0
      exact ⟨rfl, m, dk, os, by first | exact hw | rfl, HS.out⟩

def RotRel (w : World) (blk off a m b : Nat) (d : Array Ch) (vi vj : Value) (wr : World) : Prop := ∃ (i j q : Nat) (dk : Array Ch) (os : Array Obj), vi = .int .i64 i ∧ vj = .int .i64 j ∧ wr = SoW w blk off q dk os ∧ Rot a m b i j d dk
theorem SoW.next {w : World} {blk off m n : Nat} {d dk : Array Ch} {os os' : Array Obj} (hblk : blk < w.heap.size) (hs : dk.size = d.size) : SoW (SoW w blk off m d os) blk off n dk os' = SoW w blk off (m + n) dk (os ++ os') := grow_step_growK encC 3 w os os' m n blk off d dk hblk hs
theorem SoW.lt {w : World} {blk off m : Nat} {d : Array Ch} {os : Array Obj} (hblk : blk < w.heap.size) : blk < (SoW w blk off m d os).heap.size := Nat.lt_of_lt_of_le hblk (size_sortWorldK_c encC 3 w blk off m d os)
set_option maxHeartbeats 4000000 in
set_option maxRecDepth 1000000 in
theorem rotate_any (blk off cap a m b : Nat) (cmp : Value) (d : Array Ch) (w : World) (hH : HoldsK encC 3 w blk off d) (hblk : blk < w.heap.size) (ham : a < m) (hmb : m < b) (hb : b ≤ d.size) (hsz : d.size ≤ 1000000) :
    Calls Try.prog 117 #[.slice (some ⟨blk, off, none⟩) d.size cap, .int .i64 a, .int .i64 m, .int .i64 b, cmp] w fun e w' =>
      e = .returned (.tuple #[]) ∧ ∃ q d' os, w' = SoW w blk off q d' os ∧ Rotd a m b d d' := by
  have HH := Lib.hid hH
  have HB := Lib.hid hblk
  have HS := Lib.hid (fun (x y n : Nat) (dk : Array Ch) (W : World) (h1 : HoldsK encC 3 W blk off dk) (h2 : blk < W.heap.size) (h3 : x + n ≤ y) (h4 : y + n ≤ dk.size) (h5 : dk.size = d.size) => (h5 ▸ swapRange_any blk off cap x y n cmp dk W h1 h2 h3 h4 (by omega) : Calls Try.prog 119 #[.slice (some ⟨blk, off, none⟩) d.size cap, .int .i64 x, .int .i64 y, .int .i64 n, cmp] W fun e w' => e = .returned (.tuple #[]) ∧ ∃ m d' os, w' = SoW W blk off m d' os ∧ Swr x y n dk d'))
  clear hH hblk
  generalize hz : d.size = z at *
  have HZ := Lib.hid hz
  clear hz
  go_enter Try.func117, Try.ntmps117
  go_wp2
  go_loopw [10, 11] (fun i j wr => RotRel w blk off a m b d i j wr) (fun i j _ => (intOf i).toNat + (intOf j).toNat)
  case atStart => exact ⟨m - a, b - m, 0, d, #[], by go_num, by go_num, SoW.start HH.out, Rot.start d ham hmb⟩
  case round =>
    obtain ⟨i, j, q, dk, os, rfl, rfl, hw, hr⟩ := hrel
    have hi0 := hr.i0
    have hj0 := hr.j0
    have hia := hr.ia
    have hjb := hr.jb
    have hdz : dk.size = d.size := hr.turns.size
    have HR := Lib.hid hr
    have hHd : HoldsK encC 3 wr blk off dk := by rw [hw]; exact SoW.holds HH.out HB.out hdz
    have hlt : blk < wr.heap.size := by rw [hw]; exact SoW.lt HB.out
    have HD := Lib.hid hHd
    have HL := Lib.hid hlt
    have HW := Lib.hid hw
    have HDZ := Lib.hid hdz
    clear hr hw hdz hHd hlt
    have w1 : IntKind.i64.wrap ((m : Int) - (i : Int)) = ((m - i : Nat) : Int) := by rw [IntKind.wrap_i64]; omega
    rcases Nat.lt_trichotomy i j with hij | hij | hij
    · have ne1 : ¬ ((i : Int) = (j : Int)) := by omega
      have gt1 : decide ((j : Int) < (i : Int)) = false := decide_eq_false (by omega)
      have HC := Lib.hid (HS.out (m - i) (m + j - i) i dk wr HD.out HL.out (by omega) (by rw [HDZ.out, HZ.out]; omega) (by rw [HDZ.out, HZ.out]))
      have e1 : ((m - i : Nat) : Int) = (m : Int) - (i : Int) := by omega
      have e2 : ((m + j - i : Nat) : Int) = (m : Int) + (j : Int) - (i : Int) := by omega
      rw [e1, e2] at HC
      clear w1 e1 e2
      go_wp2_with fail
      refine HC.out.mono ?_
      rintro e w1 ⟨rfl, m1, d1, os1, hw1, hs1⟩
      have HW1 := Lib.hid hw1
      have HS1 := Lib.hid hs1
      clear hw1 hs1 HC
      go_wp2
      go_roundw
      case rel => exact ⟨i, j - i, q + m1, d1, os ++ os1, rfl, by go_num, by rw [HW1.out, HW.out]; exact SoW.next HB.out (by rw [HS1.out.1]), HR.out.less hij HS1.out⟩
      case measure => simp [intOf]; omega
    · subst hij
      have HC := Lib.hid (HS.out (m - i) m i dk wr HD.out HL.out (by omega) (by rw [HDZ.out, HZ.out]; omega) (by rw [HDZ.out, HZ.out]))
      have e1 : ((m - i : Nat) : Int) = (m : Int) - (i : Int) := by omega
      rw [e1] at HC
      clear w1 e1
      go_wp2_with fail
      refine HC.out.mono ?_
      rintro e w1 ⟨rfl, m1, d1, os1, hw1, hs1⟩
      have HW1 := Lib.hid hw1
      have HS1 := Lib.hid hs1
      clear hw1 hs1 HC
      go_wp2
      go_end0
      exact ⟨rfl, q + m1, d1, os ++ os1, by rw [HW1.out, HW.out]; exact SoW.next HB.out (by rw [HS1.out.1]), HR.out.done HS1.out⟩
    · have ne1 : ¬ ((i : Int) = (j : Int)) := by omega
      have gt1 : (j : Int) < (i : Int) := by omega
      have HC := Lib.hid (HS.out (m - i) m j dk wr HD.out HL.out (by omega) (by rw [HDZ.out, HZ.out]; omega) (by rw [HDZ.out, HZ.out]))
      have e1 : ((m - i : Nat) : Int) = (m : Int) - (i : Int) := by omega
      rw [e1] at HC
      clear w1 e1
      go_wp2_with fail
      refine HC.out.mono ?_
      rintro e w1 ⟨rfl, m1, d1, os1, hw1, hs1⟩
      have HW1 := Lib.hid hw1
      have HS1 := Lib.hid hs1
      clear hw1 hs1 HC
      go_wp2
      go_roundw
      case rel => exact ⟨i - j, j, q + m1, d1, os ++ os1, by go_num, rfl, by rw [HW1.out, HW.out]; exact SoW.next HB.out (by rw [HS1.out.1]), HR.out.more hij HS1.out⟩
      case measure => simp [intOf]; omega
end Go.Proofs.Ytgkenknplepmeaa
namespace Go.Proofs.Ytgkenknplepmeaa
open Go.RowKit Go.Sort Go.Shelf

theorem Cel.grown {W : World} {blk off i : Nat} {x : Ch} (h : Cel W blk off i x) (hb : blk < W.heap.size) :
    (∀ n os, (grow (W.drewN n) os).cell? ⟨blk, off + i * 3, none⟩ = some (.string x.key)) ∧ (∀ n os, (grow (W.drewN n) os).cell? ⟨blk, off + i * 3 + 1, none⟩ = some (.string x.val)) ∧ (∀ n os, (grow (W.drewN n) os).cell? ⟨blk, off + i * 3 + 2, none⟩ = some (.bool x.gone)) :=
  ⟨fun n os => cell_grown (a := ⟨blk, off + i * 3, none⟩) hb h.c0 n os, fun n os => cell_grown (a := ⟨blk, off + i * 3 + 1, none⟩) hb h.c1 n os, fun n os => cell_grown (a := ⟨blk, off + i * 3 + 2, none⟩) hb h.c2 n os⟩
theorem literal_at (x y : Ch) (W : World) : Calls Try.prog 73 #[.agg #[.string x.key, .string x.val, .bool x.gone], .agg #[.string y.key, .string y.val, .bool y.gone]] W fun e w' => e = .returned (.int .i64 (cfC x y)) ∧ ∃ q os', w' = grow (W.drewN q) os' := literal_any x y W
theorem cfC_lt {x y : Ch} (h : cfC x y < 0) : ltC x y = true := by rw [← ltOf_cfC]; exact decide_eq_true h
theorem cfC_ge {x y : Ch} (h : ¬ cfC x y < 0) : ltC x y = false := by rw [← ltOf_cfC]; exact decide_eq_false h
theorem SoW.grown {w wr : World} {blk off m : Nat} {dk : Array Ch} {os : Array Obj} (hw : wr = SoW w blk off m dk os) (n : Nat) (os' : Array Obj) : grow (wr.drewN n) os' = SoW w blk off (m + n) dk (os ++ os') := by
  rw [hw]; exact sortWorldK_grown_c encC 3 w blk off m n dk os os'

def SymPost (w : World) (blk off a m b : Nat) (d : Array Ch) (e : Ending) (w' : World) : Prop := e = .returned (.tuple #[]) ∧ ∃ q d' os, w' = SoW w blk off q d' os ∧ Mrg a m b d d'
/-- The search: below lo all are less, from hi on none is. -/
def FndA (w : World) (blk off a m b : Nat) (d : Array Ch) (g lo hi : Nat) (wr : World) : Prop := m ≤ lo ∧ lo ≤ hi ∧ hi ≤ b ∧ hi - lo ≤ g ∧ (∃ q os, wr = SoW w blk off q d os) ∧ (∀ x, m ≤ x → x < lo → ltC d[x]! d[a]! = true) ∧ ∀ x, hi ≤ x → x < b → ltC d[x]! d[a]! = false
theorem FndA.up {w wr wr' : World} {blk off a m b g lo hi h : Nat} {d : Array Ch} (F : FndA w blk off a m b d g lo hi wr) (hs : Srt d m b) (h1 : lo ≤ h) (h2 : h < hi) (hl : ltC d[h]! d[a]! = true) (hw : ∃ q os, wr' = SoW w blk off q d os) : FndA w blk off a m b d (hi - (h + 1)) (h + 1) hi wr' := by
  obtain ⟨q1, q2, q3, q4, q5, q6, q7⟩ := F
  refine ⟨by omega, by omega, q3, Nat.le_refl _, hw, fun x hx hxh => ?_, q7⟩
  exact leC_ltC (hs.le hx (show x ≤ h by omega) (by omega)) hl
theorem FndA.down {w wr wr' : World} {blk off a m b g lo hi h : Nat} {d : Array Ch} (F : FndA w blk off a m b d g lo hi wr) (hs : Srt d m b) (h1 : lo ≤ h) (h2 : h < hi) (hl : ltC d[h]! d[a]! = false) (hw : ∃ q os, wr' = SoW w blk off q d os) : FndA w blk off a m b d (h - lo) lo h wr' := by
  obtain ⟨q1, q2, q3, q4, q5, q6, q7⟩ := F
  refine ⟨q1, h1, by omega, Nat.le_refl _, hw, q6, fun x hx hxb => ?_⟩
  cases e : ltC d[x]! d[a]! with
  | false => rfl
  | true => rw [leC_ltC (hs.le (show m ≤ h by omega) hx hxb) e] at hl; cases hl
def UpRel (w : World) (blk off a i : Nat) (d : Array Ch) (v : Value) (wr : World) : Prop := ∃ (k q : Nat) (dk : Array Ch) (os : Array Obj), v = .int .i64 k ∧ k < i ∧ wr = SoW w blk off q dk os ∧ Up a i d dk k
set_option maxHeartbeats 4000000 in
set_option maxRecDepth 1000000 in
theorem symA_any (blk off cap a m b : Nat) (d : Array Ch) (w : World) (hH : HoldsK encC 3 w blk off d) (hblk : blk < w.heap.size) (hm : m = a + 1) (hmb : m < b) (hb : b ≤ d.size) (hsz : d.size ≤ 1000000) (hsr : Srt d m b) :
    Calls Try.prog 111 #[.slice (some ⟨blk, off, none⟩) d.size cap, .int .i64 a, .int .i64 m, .int .i64 b, .func (.func 73) #[] #[]] w (SymPost w blk off a m b d) := by
  have HH := Lib.hid hH
  have HB := Lib.hid hblk
  have HSR := Lib.hid hsr
  clear hH hblk hsr
  have hm1 : a + 1 ≤ m := by omega
  have hm2 : m ≤ a + 1 := by omega
  have HM := Lib.hid hm
  have em : ((m : Int) - (a : Int) == 1) = true := by rw [beq_iff_eq]; omega
  clear hm
  generalize hz : d.size = z at *
  have HZ := Lib.hid hz
  clear hz
  have mixed : Try.prog.follows .mixedOrders = true := by kernel_rfl
  go_enter Try.func111, Try.ntmps111
  go_wp2
  go_loopg [10, 11] b (fun kx s10 s11 wr => ∃ (lo hi : Nat), s10 = .int .i64 lo ∧ s11 = .int .i64 hi ∧ FndA w blk off a m b d kx lo hi wr)
  case atStart => exact ⟨m, b, rfl, rfl, Nat.le_refl _, by omega, Nat.le_refl _, by omega, ⟨0, #[], SoW.start HH.out⟩, fun x h1 h2 => by omega, fun x h1 h2 => by omega⟩
  case round =>
    obtain ⟨lo, hi, rfl, rfl, hF⟩ := hrel
    have HF := Lib.hid hF
    obtain ⟨q1, q2, q3, q4, ⟨q, os, hw⟩, q6, q7⟩ := hF
    have HQ := Lib.hid (And.intro q6 q7)
    clear q6 q7
    by_cases hlt : lo < hi
    · have hHd : HoldsK encC 3 wr blk off d := by rw [hw]; exact SoW.holds HH.out HB.out rfl
      have hbl : blk < wr.heap.size := by rw [hw]; exact SoW.lt HB.out
      obtain ⟨i0, i1, i2⟩ := (Cel.of hHd (show (lo + hi) / 2 < d.size by rw [HZ.out]; omega)).grown hbl
      obtain ⟨j0, j1, j2⟩ := (Cel.of hHd (show a < d.size by rw [HZ.out]; omega)).grown hbl
      obtain ⟨h, hh⟩ : ∃ h, h = (lo + hi) / 2 := ⟨_, rfl⟩
      rw [← hh] at i0 i1 i2
      have e0 : ((lo : Int) + (hi : Int)) / 2 = (h : Int) := by omega
      have b1 : h < z := by omega
      have b2 : a < z := by omega
      have b3 : (a : Int) < (z : Int) := by omega
      obtain ⟨x, hx⟩ : ∃ x, x = d[h]! := ⟨_, rfl⟩
      obtain ⟨y, hy⟩ : ∃ y, y = d[a]! := ⟨_, rfl⟩
      rw [← hx] at i0 i1 i2
      rw [← hy] at j0 j1 j2
      have hcg := fun n os => literal_at x y (grow (wr.drewN n) os)
      have HW := Lib.hid hw
      have HX := Lib.hid (And.intro hx hy)
      have HHH := Lib.hid hh
      clear hw hHd hbl hx hy hh
      by_cases hlv : cfC x y < 0
      · have hl : ltC d[h]! d[a]! = true := by rw [← HX.out.1, ← HX.out.2]; exact cfC_lt hlv
        have HL := Lib.hid hl
        clear hl
        generalize cfC x y = r at *
        go_wp2_with fail
        go_quiet_grown (first | (go_at_call 73; refine Calls.grown_of (hcg _ _)))
        go_wp2
        go_roundg (hi - (h + 1))
        case measure => omega
        case rel => exact ⟨h + 1, hi, by first | rfl | go_num | (congr 1; omega), rfl, HF.out.up HSR.out (by have := HHH.out; omega) (by have := HHH.out; omega) HL.out ⟨_, _, SoW.grown HW.out _ _⟩⟩
      · have hl : ltC d[h]! d[a]! = false := by rw [← HX.out.1, ← HX.out.2]; exact cfC_ge hlv
        have HL := Lib.hid hl
        clear hl
        generalize cfC x y = r at *
        go_wp2_with fail
        go_quiet_grown (first | (go_at_call 73; refine Calls.grown_of (hcg _ _)))
        go_wp2
        go_roundg (h - lo)
        case measure => omega
        case rel => exact ⟨lo, h, rfl, by first | rfl | go_num | (congr 1; omega), HF.out.down HSR.out (by have := HHH.out; omega) (by have := HHH.out; omega) HL.out ⟨_, _, SoW.grown HW.out _ _⟩⟩
    · obtain rfl : lo = hi := by omega
      have HW := Lib.hid hw
      clear hw HF
      go_wp2
      go_loopw [13] (fun v wr => UpRel w blk off a lo d v wr) (fun v _ => lo - (intOf v).toNat)
      case atStart => exact ⟨a, q, d, os, rfl, by omega, HW.out, Up.start a lo d⟩
      case round =>
        obtain ⟨k, q', dk, os', rfl, hk, hw', hU⟩ := hrel
        have HU := Lib.hid hU
        have hdz : dk.size = d.size := hU.turns.size
        have hal := hU.le
        by_cases hlt2 : k + 1 < lo
        · have hHd : HoldsK encC 3 wr blk off dk := by rw [hw']; exact SoW.holds HH.out HB.out hdz
          obtain ⟨i0, i1, i2, p0, p1, p2⟩ := Cel.of hHd (show k < dk.size by rw [hdz, HZ.out]; omega)
          obtain ⟨j0, j1, j2, r0, r1, r2⟩ := Cel.of hHd (show k + 1 < dk.size by rw [hdz, HZ.out]; omega)
          have HW' := Lib.hid hw'
          have HD := Lib.hid hdz
          clear hw' hU hdz hHd HW
          obtain ⟨xI, hcI⟩ : ∃ c, c = dk[k]! := ⟨_, rfl⟩
          obtain ⟨xJ, hcJ⟩ : ∃ c, c = dk[k + 1]! := ⟨_, rfl⟩
          rw [← hcI] at i0 i1 i2
          rw [← hcJ] at j0 j1 j2
          have HC := Lib.hid (And.intro hcI hcJ)
          clear hcI hcJ
          have d1 : (k : Int) < (lo : Int) - 1 := by omega
          have d2 : (k : Int) + 1 < (z : Int) := by omega
          have d3 : (k : Int) < (z : Int) := by omega
          have d4 : ((k : Int) + 1).toNat = k + 1 := by omega
          go_wp2_with fail
          go_big_region_o
          all_goals go_wp2
          go_roundw
          case rel => exact ⟨k + 1, q' + 1, swp dk k (k + 1), os', by go_num, hlt2, SoW.swap6 HW'.out HB.out (by rw [HD.out, HZ.out]; omega) (by rw [HD.out, HZ.out]; omega) HC.out.1 HC.out.2, HU.out.step hlt2 (by rw [HZ.out]; omega)⟩
          case measure => simp [intOf]; omega
        · have HW' := Lib.hid hw'
          have d1 : ¬ (k : Int) < (lo : Int) - 1 := by omega
          clear hw'
          go_wp2
          go_end0
          exact ⟨rfl, q', dk, os', HW'.out, Up.done (by rw [show lo - 1 = k by omega]; exact HU.out) HM.out (by omega) q3 HQ.out.1 HQ.out.2⟩
end Go.Proofs.Ytgkenknplepmeaa
namespace Go.Proofs.Ytgkenknplepmeaa
open Go.RowKit Go.Sort Go.Shelf

def FndB (w : World) (blk off a m : Nat) (d : Array Ch) (g lo hi : Nat) (wr : World) : Prop := a ≤ lo ∧ lo ≤ hi ∧ hi ≤ m ∧ hi - lo ≤ g ∧ (∃ q os, wr = SoW w blk off q d os) ∧ (∀ x, a ≤ x → x < lo → ltC d[m]! d[x]! = false) ∧ ∀ x, hi ≤ x → x < m → ltC d[m]! d[x]! = true
theorem FndB.up {w wr wr' : World} {blk off a m g lo hi h : Nat} {d : Array Ch} (F : FndB w blk off a m d g lo hi wr) (hs : Srt d a m) (h1 : lo ≤ h) (h2 : h < hi) (hl : ltC d[m]! d[h]! = false) (hw : ∃ q os, wr' = SoW w blk off q d os) : FndB w blk off a m d (hi - (h + 1)) (h + 1) hi wr' := by
  obtain ⟨q1, q2, q3, q4, q5, q6, q7⟩ := F
  refine ⟨by omega, by omega, q3, Nat.le_refl _, hw, fun x hx hxh => ?_, q7⟩
  cases e : ltC d[m]! d[x]! with
  | false => rfl
  | true => rw [ltC_leC e (hs.le hx (show x ≤ h by omega) (by omega))] at hl; cases hl
theorem FndB.down {w wr wr' : World} {blk off a m g lo hi h : Nat} {d : Array Ch} (F : FndB w blk off a m d g lo hi wr) (hs : Srt d a m) (h1 : lo ≤ h) (h2 : h < hi) (hl : ltC d[m]! d[h]! = true) (hw : ∃ q os, wr' = SoW w blk off q d os) : FndB w blk off a m d (h - lo) lo h wr' := by
  obtain ⟨q1, q2, q3, q4, q5, q6, q7⟩ := F
  refine ⟨q1, h1, by omega, Nat.le_refl _, hw, q6, fun x hx hxb => ?_⟩
  exact ltC_leC hl (hs.le (show a ≤ h by omega) hx hxb)
def DnRel (w : World) (blk off i m : Nat) (d : Array Ch) (v : Value) (wr : World) : Prop := ∃ (k q : Nat) (dk : Array Ch) (os : Array Obj), v = .int .i64 k ∧ i ≤ k ∧ wr = SoW w blk off q dk os ∧ Dn i m d dk k
set_option maxHeartbeats 4000000 in
set_option maxRecDepth 1000000 in
theorem symB_any (blk off cap a m b : Nat) (d : Array Ch) (w : World) (hH : HoldsK encC 3 w blk off d) (hblk : blk < w.heap.size) (hm : b = m + 1) (ham : a + 1 < m) (hb : b ≤ d.size) (hsz : d.size ≤ 1000000) (hsr : Srt d a m) :
    Calls Try.prog 111 #[.slice (some ⟨blk, off, none⟩) d.size cap, .int .i64 a, .int .i64 m, .int .i64 b, .func (.func 73) #[] #[]] w (SymPost w blk off a m b d) := by
  have HH := Lib.hid hH
  have HB := Lib.hid hblk
  have HSR := Lib.hid hsr
  clear hH hblk hsr
  have hm1 : m + 1 ≤ b := by omega
  have hm2 : b ≤ m + 1 := by omega
  have HM := Lib.hid hm
  have em : ((b : Int) - (m : Int) == 1) = true := by rw [beq_iff_eq]; omega
  have en : ((m : Int) - (a : Int) == 1) = false := by rw [beq_eq_false_iff_ne]; omega
  clear hm
  generalize hz : d.size = z at *
  have HZ := Lib.hid hz
  clear hz
  have mixed : Try.prog.follows .mixedOrders = true := by kernel_rfl
  go_enter Try.func111, Try.ntmps111
  go_wp2
  go_loopg [14, 15] m (fun kx s10 s11 wr => ∃ (lo hi : Nat), s10 = .int .i64 lo ∧ s11 = .int .i64 hi ∧ FndB w blk off a m d kx lo hi wr)
  case atStart => exact ⟨a, m, rfl, rfl, Nat.le_refl _, by omega, Nat.le_refl _, by omega, ⟨0, #[], SoW.start HH.out⟩, fun x h1 h2 => by omega, fun x h1 h2 => by omega⟩
  case round =>
    obtain ⟨lo, hi, rfl, rfl, hF⟩ := hrel
    have HF := Lib.hid hF
    obtain ⟨q1, q2, q3, q4, ⟨q, os, hw⟩, q6, q7⟩ := hF
    have HQ := Lib.hid (And.intro q6 q7)
    clear q6 q7
    by_cases hlt : lo < hi
    · have hHd : HoldsK encC 3 wr blk off d := by rw [hw]; exact SoW.holds HH.out HB.out rfl
      have hbl : blk < wr.heap.size := by rw [hw]; exact SoW.lt HB.out
      obtain ⟨i0, i1, i2⟩ := (Cel.of hHd (show (lo + hi) / 2 < d.size by rw [HZ.out]; omega)).grown hbl
      obtain ⟨j0, j1, j2⟩ := (Cel.of hHd (show m < d.size by rw [HZ.out]; omega)).grown hbl
      obtain ⟨h, hh⟩ : ∃ h, h = (lo + hi) / 2 := ⟨_, rfl⟩
      rw [← hh] at i0 i1 i2
      have e0 : ((lo : Int) + (hi : Int)) / 2 = (h : Int) := by omega
      have b1 : h < z := by omega
      have b2 : m < z := by omega
      have b3 : (m : Int) < (z : Int) := by omega
      obtain ⟨x, hx⟩ : ∃ x, x = d[h]! := ⟨_, rfl⟩
      obtain ⟨y, hy⟩ : ∃ y, y = d[m]! := ⟨_, rfl⟩
      rw [← hx] at i0 i1 i2
      rw [← hy] at j0 j1 j2
      have hcg := fun n os => literal_at y x (grow (wr.drewN n) os)
      have HW := Lib.hid hw
      have HX := Lib.hid (And.intro hx hy)
      have HHH := Lib.hid hh
      clear hw hHd hbl hx hy hh
      by_cases hlv : cfC y x < 0
      · have hl : ltC d[m]! d[h]! = true := by rw [← HX.out.1, ← HX.out.2]; exact cfC_lt hlv
        have HL := Lib.hid hl
        clear hl
        generalize cfC y x = r at *
        go_wp2_with fail
        go_quiet_grown (first | (go_at_call 73; refine Calls.grown_of (hcg _ _)))
        go_wp2
        go_roundg (h - lo)
        case measure => omega
        case rel => exact ⟨lo, h, rfl, by first | rfl | go_num | (congr 1; omega), HF.out.down HSR.out (by have := HHH.out; omega) (by have := HHH.out; omega) HL.out ⟨_, _, SoW.grown HW.out _ _⟩⟩
      · have hl : ltC d[m]! d[h]! = false := by rw [← HX.out.1, ← HX.out.2]; exact cfC_ge hlv
        have HL := Lib.hid hl
        clear hl
        generalize cfC y x = r at *
        have hd : decide (r < 0) = false := decide_eq_false hlv
        go_wp2_with fail
        go_quiet_grown (first | (go_at_call 73; refine Calls.grown_of (hcg _ _)))
        go_wp2
        go_roundg (hi - (h + 1))
        case measure => omega
        case rel => exact ⟨h + 1, hi, by first | rfl | go_num | (congr 1; omega), rfl, HF.out.up HSR.out (by have := HHH.out; omega) (by have := HHH.out; omega) HL.out ⟨_, _, SoW.grown HW.out _ _⟩⟩
    · obtain rfl : lo = hi := by omega
      have HW := Lib.hid hw
      clear hw HF
      go_wp2
      go_loopw [17] (fun v wr => DnRel w blk off lo m d v wr) (fun v _ => (intOf v).toNat - lo)
      case atStart => exact ⟨m, q, d, os, rfl, by omega, HW.out, Dn.start lo m d⟩
      case round =>
        obtain ⟨k, q', dk, os', rfl, hk, hw', hU⟩ := hrel
        have HU := Lib.hid hU
        have hdz : dk.size = d.size := hU.turns.size
        have hal := hU.le
        by_cases hlt2 : lo < k
        · obtain ⟨kp, rfl⟩ : ∃ kp, k = kp + 1 := ⟨k - 1, by omega⟩
          have hHd : HoldsK encC 3 wr blk off dk := by rw [hw']; exact SoW.holds HH.out HB.out hdz
          obtain ⟨i0, i1, i2, p0, p1, p2⟩ := Cel.of hHd (show kp + 1 < dk.size by rw [hdz, HZ.out]; omega)
          obtain ⟨j0, j1, j2, r0, r1, r2⟩ := Cel.of hHd (show kp < dk.size by rw [hdz, HZ.out]; omega)
          have HW' := Lib.hid hw'
          have HD := Lib.hid hdz
          clear hw' hU hdz hHd HW
          obtain ⟨xI, hcI⟩ : ∃ c, c = dk[kp + 1]! := ⟨_, rfl⟩
          obtain ⟨xJ, hcJ⟩ : ∃ c, c = dk[kp]! := ⟨_, rfl⟩
          rw [← hcI] at i0 i1 i2
          rw [← hcJ] at j0 j1 j2
          have HC := Lib.hid (And.intro hcI hcJ)
          clear hcI hcJ
          have d1 : (lo : Int) < (kp : Int) + 1 := by omega
          have d2 : (kp : Int) + 1 < (z : Int) := by omega
          have d3 : (kp : Int) < (z : Int) := by omega
          have d4 : ((kp : Int) + 1).toNat = kp + 1 := by omega
          have d5 : IntKind.i64.wrap (kp : Int) = (kp : Int) := by rw [IntKind.wrap_i64]; omega
          go_wp2_with fail
          go_big_region_o
          all_goals go_wp2
          go_roundw
          case rel => exact ⟨kp, q' + 1, swp dk (kp + 1) kp, os', by first | rfl | go_num | (congr 1; omega), by omega, SoW.swap6 HW'.out HB.out (by rw [HD.out, HZ.out]; omega) (by rw [HD.out, HZ.out]; omega) HC.out.1 HC.out.2, HU.out.step (by omega) (by rw [HZ.out]; omega)⟩
          case measure => simp [intOf]; omega
        · have HW' := Lib.hid hw'
          have d1 : ¬ (lo : Int) < (k : Int) := by omega
          clear hw'
          go_wp2
          go_end0
          obtain rfl : k = lo := by omega
          exact ⟨rfl, q', dk, os', HW'.out, Dn.done HU.out HM.out q1 q3 HQ.out.1 HQ.out.2⟩
end Go.Proofs.Ytgkenknplepmeaa
