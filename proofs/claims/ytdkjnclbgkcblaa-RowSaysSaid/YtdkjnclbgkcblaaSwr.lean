/-
  WALKS: slices.swapRangeCmpFunc and slices.rotateCmpFunc of changes: what each leaves.
-/
import Derived.Test.YtdkjnclbgkcblaaCmp
namespace Go.Proofs.Ytdkjnclbgkcblaa
open Go.RowKit Go.Sort Go.Shelf

/-- The three cells of a place, and that they may be written. -/
structure Cel (W : World) (blk off i : Nat) (x : Ch) : Prop where
  c0 : W.cell? ⟨blk, off + i * 3, none⟩ = some (.string x.key)
  c1 : W.cell? ⟨blk, off + i * 3 + 1, none⟩ = some (.string x.val)
  c2 : W.cell? ⟨blk, off + i * 3 + 2, none⟩ = some (.bool x.gone)
  f0 : W.frozen? ⟨blk, off + i * 3, none⟩ = false
  f1 : W.frozen? ⟨blk, off + i * 3 + 1, none⟩ = false
  f2 : W.frozen? ⟨blk, off + i * 3 + 2, none⟩ = false
theorem Cel.of {W : World} {blk off : Nat} {d : Array Ch} {i : Nat} (h : HoldsK encC 3 W blk off d) (hi : i < d.size) : Cel W blk off i d[i]! :=
  ⟨(h.cell hi (c := 0) (by omega)).1, (h.cell hi (c := 1) (by omega)).1, (h.cell hi (c := 2) (by omega)).1, (h.cell hi (c := 0) (by omega)).2, (h.cell hi (c := 1) (by omega)).2, (h.cell hi (c := 2) (by omega)).2⟩
theorem SoW.holds {w : World} {blk off m : Nat} {d dk : Array Ch} {os : Array Obj} (hH : HoldsK encC 3 w blk off d) (hblk : blk < w.heap.size) (hs : dk.size = d.size) : HoldsK encC 3 (SoW w blk off m dk os) blk off dk := holdsK_sortWorldK_c encC 3 w blk off d dk m os hH hblk hs
theorem SoW.start {w : World} {blk off : Nat} {d : Array Ch} (hH : HoldsK encC 3 w blk off d) : w = SoW w blk off 0 d #[] := by
  unfold SoW sortWorldK; rw [grow_empty]; exact (putRowK_self encC 3 w blk off d hH).symm
theorem SoW.swap {w : World} {blk off m : Nat} {dk : Array Ch} {os : Array Obj} (hblk : blk < w.heap.size) {i j : Nat} (hi : i < dk.size) (hj : j < dk.size) :
    (((SoW w blk off m dk os).drew.setCells blk (off + i * 3) (encC dk[j]!)).setCells blk (off + j * 3) (encC dk[i]!)) = SoW w blk off (m + 1) (swp dk i j) os := sortWorldK_swp_c encC 3 w blk off encC_len m dk os hblk i j hi hj
theorem set6 (W : World) (blk p q : Nat) (x y : Ch) : ((((((W.setCell ⟨blk, p, none⟩ (.string y.key)).setCell ⟨blk, p + 1, none⟩ (.string y.val)).setCell ⟨blk, p + 2, none⟩ (.bool y.gone)).setCell ⟨blk, q, none⟩ (.string x.key)).setCell ⟨blk, q + 1, none⟩ (.string x.val)).setCell ⟨blk, q + 2, none⟩ (.bool x.gone)).drew = (W.drew.setCells blk p (encC y)).setCells blk q (encC x) := by
  have e : W.drew = W.drewN 1 := rfl
  rw [e, setCells_drewN, setCells_drewN]
  simp only [encC, World.setCells, Nat.add_assoc]
  rfl
/-- An exchange, as the walk spells it. -/
theorem SoW.swap6 {w wr : World} {blk off m : Nat} {dk : Array Ch} {os : Array Obj} (hw : wr = SoW w blk off m dk os) (hblk : blk < w.heap.size) {i j : Nat} (hi : i < dk.size) (hj : j < dk.size) {x y : Ch} (hx : x = dk[i]!) (hy : y = dk[j]!) :
    ((((((wr.setCell ⟨blk, off + i * 3, none⟩ (.string y.key)).setCell ⟨blk, off + i * 3 + 1, none⟩ (.string y.val)).setCell ⟨blk, off + i * 3 + 2, none⟩ (.bool y.gone)).setCell ⟨blk, off + j * 3, none⟩ (.string x.key)).setCell ⟨blk, off + j * 3 + 1, none⟩ (.string x.val)).setCell ⟨blk, off + j * 3 + 2, none⟩ (.bool x.gone)).drew = SoW w blk off (m + 1) (swp dk i j) os := by
  rw [set6, hw, hx, hy]; exact SoW.swap hblk hi hj

def SwrRel (w : World) (blk off a b n : Nat) (d : Array Ch) (i : Value) (wr : World) : Prop := ∃ (k m : Nat) (dk : Array Ch) (os : Array Obj), k ≤ n ∧ i = .int .i64 k ∧ wr = SoW w blk off m dk os ∧ Swr a b k d dk
set_option maxHeartbeats 4000000 in
set_option maxRecDepth 1000000 in
theorem swapRange_any (blk off cap a b n : Nat) (cmp : Value) (d : Array Ch) (w : World) (hH : HoldsK encC 3 w blk off d) (hblk : blk < w.heap.size) (hab : a + n ≤ b) (hb : b + n ≤ d.size) (hsz : d.size ≤ 1000000) :
    Calls Try.prog 119 #[.slice (some ⟨blk, off, none⟩) d.size cap, .int .i64 a, .int .i64 b, .int .i64 n, cmp] w fun e w' =>
      e = .returned (.tuple #[]) ∧ ∃ m d' os, w' = SoW w blk off m d' os ∧ Swr a b n d d' := by
  have HH := Lib.hid hH
  have HB := Lib.hid hblk
  clear hH hblk
  generalize hz : d.size = z at *
  have HZ := Lib.hid hz
  clear hz
  go_enter Try.func119, Try.ntmps119
  go_wp2
  go_loopw [10] (fun i wr => SwrRel w blk off a b n d i wr) (fun i _ => n - (intOf i).toNat)
  case atStart => exact ⟨0, 0, d, #[], Nat.zero_le _, rfl, SoW.start HH.out, Swr.zero _ _ _⟩
  case round =>
    obtain ⟨k, m, dk, os, hk, rfl, hw, hs⟩ := hrel
    have HS := Lib.hid hs
    have hdz : dk.size = d.size := hs.1
    by_cases hlt : k < n
    · have hHd : HoldsK encC 3 wr blk off dk := by rw [hw]; exact SoW.holds HH.out HB.out hdz
      obtain ⟨i0, i1, i2, p0, p1, p2⟩ := Cel.of hHd (show a + k < dk.size by rw [hdz, HZ.out]; omega)
      obtain ⟨j0, j1, j2, q0, q1, q2⟩ := Cel.of hHd (show b + k < dk.size by rw [hdz, HZ.out]; omega)
      have HW := Lib.hid hw
      have HD := Lib.hid hdz
      clear hw hs hdz hHd
      obtain ⟨xI, hcI⟩ : ∃ c, c = dk[a + k]! := ⟨_, rfl⟩
      obtain ⟨xJ, hcJ⟩ : ∃ c, c = dk[b + k]! := ⟨_, rfl⟩
      rw [← hcI] at i0 i1 i2
      rw [← hcJ] at j0 j1 j2
      have HC := Lib.hid (And.intro hcI hcJ)
      clear hcI hcJ
      have e1 : ((a : Int) + (k : Int)).toNat = a + k := by omega
      have e2 : ((b : Int) + (k : Int)).toNat = b + k := by omega
      have mixed : Try.prog.follows .mixedOrders = true := by kernel_rfl
      go_wp2_with fail
      go_big_region_o
      all_goals go_wp2
      go_roundw
      case rel => exact ⟨k + 1, m + 1, swp dk (a + k) (b + k), os, by omega, by go_num, SoW.swap6 HW.out HB.out (by rw [HD.out, HZ.out]; omega) (by rw [HD.out, HZ.out]; omega) HC.out.1 HC.out.2, HS.out.step (by omega) (by rw [HZ.out]; omega)⟩
      case measure => simp [intOf]; omega
    · obtain rfl : k = n := by omega
      go_wp2
      go_end0
      exact ⟨rfl, m, dk, os, by first | exact hw | rfl, HS.out⟩

def RotRel (w : World) (blk off a m b : Nat) (d : Array Ch) (vi vj : Value) (wr : World) : Prop := ∃ (i j q : Nat) (dk : Array Ch) (os : Array Obj), vi = .int .i64 i ∧ vj = .int .i64 j ∧ wr = SoW w blk off q dk os ∧ Rot a m b i j d dk
theorem SoW.next {w : World} {blk off m n : Nat} {d dk : Array Ch} {os os' : Array Obj} (hblk : blk < w.heap.size) (hs : dk.size = d.size) : SoW (SoW w blk off m d os) blk off n dk os' = SoW w blk off (m + n) dk (os ++ os') := grow_step_growK encC 3 w os os' m n blk off d dk hblk hs
theorem SoW.lt {w : World} {blk off m : Nat} {d : Array Ch} {os : Array Obj} (hblk : blk < w.heap.size) : blk < (SoW w blk off m d os).heap.size := Nat.lt_of_lt_of_le hblk (size_sortWorldK_c encC 3 w blk off m d os)
set_option maxHeartbeats 4000000 in
set_option maxRecDepth 1000000 in
theorem rotate_any (blk off cap a m b : Nat) (cmp : Value) (d : Array Ch) (w : World) (hH : HoldsK encC 3 w blk off d) (hblk : blk < w.heap.size) (ham : a < m) (hmb : m < b) (hb : b ≤ d.size) (hsz : d.size ≤ 1000000) :
    Calls Try.prog 117 #[.slice (some ⟨blk, off, none⟩) d.size cap, .int .i64 a, .int .i64 m, .int .i64 b, cmp] w fun e w' =>
      e = .returned (.tuple #[]) ∧ ∃ q d' os, w' = SoW w blk off q d' os ∧ Rotd a m b d d' := by
  have HH := Lib.hid hH
  have HB := Lib.hid hblk
  have HS := Lib.hid (fun (x y n : Nat) (dk : Array Ch) (W : World) (h1 : HoldsK encC 3 W blk off dk) (h2 : blk < W.heap.size) (h3 : x + n ≤ y) (h4 : y + n ≤ dk.size) (h5 : dk.size = d.size) => (h5 ▸ swapRange_any blk off cap x y n cmp dk W h1 h2 h3 h4 (by omega) : Calls Try.prog 119 #[.slice (some ⟨blk, off, none⟩) d.size cap, .int .i64 x, .int .i64 y, .int .i64 n, cmp] W fun e w' => e = .returned (.tuple #[]) ∧ ∃ m d' os, w' = SoW W blk off m d' os ∧ Swr x y n dk d'))
  clear hH hblk
  generalize hz : d.size = z at *
  have HZ := Lib.hid hz
  clear hz
  go_enter Try.func117, Try.ntmps117
  go_wp2
  go_loopw [10, 11] (fun i j wr => RotRel w blk off a m b d i j wr) (fun i j _ => (intOf i).toNat + (intOf j).toNat)
  case atStart => exact ⟨m - a, b - m, 0, d, #[], by go_num, by go_num, SoW.start HH.out, Rot.start d ham hmb⟩
  case round =>
    obtain ⟨i, j, q, dk, os, rfl, rfl, hw, hr⟩ := hrel
    have hi0 := hr.i0
    have hj0 := hr.j0
    have hia := hr.ia
    have hjb := hr.jb
    have hdz : dk.size = d.size := hr.turns.size
    have HR := Lib.hid hr
    have hHd : HoldsK encC 3 wr blk off dk := by rw [hw]; exact SoW.holds HH.out HB.out hdz
    have hlt : blk < wr.heap.size := by rw [hw]; exact SoW.lt HB.out
    have HD := Lib.hid hHd
    have HL := Lib.hid hlt
    have HW := Lib.hid hw
    have HDZ := Lib.hid hdz
    clear hr hw hdz hHd hlt
    have w1 : IntKind.i64.wrap ((m : Int) - (i : Int)) = ((m - i : Nat) : Int) := by rw [IntKind.wrap_i64]; omega
    rcases Nat.lt_trichotomy i j with hij | hij | hij
    · have ne1 : ¬ ((i : Int) = (j : Int)) := by omega
      have gt1 : decide ((j : Int) < (i : Int)) = false := decide_eq_false (by omega)
      have HC := Lib.hid (HS.out (m - i) (m + j - i) i dk wr HD.out HL.out (by omega) (by rw [HDZ.out, HZ.out]; omega) (by rw [HDZ.out, HZ.out]))
      have e1 : ((m - i : Nat) : Int) = (m : Int) - (i : Int) := by omega
      have e2 : ((m + j - i : Nat) : Int) = (m : Int) + (j : Int) - (i : Int) := by omega
      rw [e1, e2] at HC
      clear w1 e1 e2
      go_wp2_with fail
      refine HC.out.mono ?_
      rintro e w1 ⟨rfl, m1, d1, os1, hw1, hs1⟩
      have HW1 := Lib.hid hw1
      have HS1 := Lib.hid hs1
      clear hw1 hs1 HC
      go_wp2
      go_roundw
      case rel => exact ⟨i, j - i, q + m1, d1, os ++ os1, rfl, by go_num, by rw [HW1.out, HW.out]; exact SoW.next HB.out (by rw [HS1.out.1]), HR.out.less hij HS1.out⟩
      case measure => simp [intOf]; omega
    · subst hij
      have HC := Lib.hid (HS.out (m - i) m i dk wr HD.out HL.out (by omega) (by rw [HDZ.out, HZ.out]; omega) (by rw [HDZ.out, HZ.out]))
      have e1 : ((m - i : Nat) : Int) = (m : Int) - (i : Int) := by omega
      rw [e1] at HC
      clear w1 e1
      go_wp2_with fail
      refine HC.out.mono ?_
      rintro e w1 ⟨rfl, m1, d1, os1, hw1, hs1⟩
      have HW1 := Lib.hid hw1
      have HS1 := Lib.hid hs1
      clear hw1 hs1 HC
      go_wp2
      go_end0
      exact ⟨rfl, q + m1, d1, os ++ os1, by rw [HW1.out, HW.out]; exact SoW.next HB.out (by rw [HS1.out.1]), HR.out.done HS1.out⟩
    · have ne1 : ¬ ((i : Int) = (j : Int)) := by omega
      have gt1 : (j : Int) < (i : Int) := by omega
      have HC := Lib.hid (HS.out (m - i) m j dk wr HD.out HL.out (by omega) (by rw [HDZ.out, HZ.out]; omega) (by rw [HDZ.out, HZ.out]))
      have e1 : ((m - i : Nat) : Int) = (m : Int) - (i : Int) := by omega
      rw [e1] at HC
      clear w1 e1
      go_wp2_with fail
      refine HC.out.mono ?_
      rintro e w1 ⟨rfl, m1, d1, os1, hw1, hs1⟩
      have HW1 := Lib.hid hw1
      have HS1 := Lib.hid hs1
      clear hw1 hs1 HC
      go_wp2
      go_roundw
      case rel => exact ⟨i - j, j, q + m1, d1, os ++ os1, by go_num, rfl, by rw [HW1.out, HW.out]; exact SoW.next HB.out (by rw [HS1.out.1]), HR.out.more hij HS1.out⟩
      case measure => simp [intOf]; omega
end Go.Proofs.Ytdkjnclbgkcblaa
