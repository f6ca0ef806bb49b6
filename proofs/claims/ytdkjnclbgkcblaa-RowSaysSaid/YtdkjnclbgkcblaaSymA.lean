/-
  WALKS: slices.symMergeCmpFunc of changes where one of the two parts has one element.
-/
import Derived.Test.YtdkjnclbgkcblaaSwr
namespace Go.Proofs.Ytdkjnclbgkcblaa
open Go.RowKit Go.Sort Go.Shelf

theorem Cel.grown {W : World} {blk off i : Nat} {x : Ch} (h : Cel W blk off i x) (hb : blk < W.heap.size) :
    (∀ n os, (grow (W.drewN n) os).cell? ⟨blk, off + i * 3, none⟩ = some (.string x.key)) ∧ (∀ n os, (grow (W.drewN n) os).cell? ⟨blk, off + i * 3 + 1, none⟩ = some (.string x.val)) ∧ (∀ n os, (grow (W.drewN n) os).cell? ⟨blk, off + i * 3 + 2, none⟩ = some (.bool x.gone)) :=
  ⟨fun n os => cell_grown (a := ⟨blk, off + i * 3, none⟩) hb h.c0 n os, fun n os => cell_grown (a := ⟨blk, off + i * 3 + 1, none⟩) hb h.c1 n os, fun n os => cell_grown (a := ⟨blk, off + i * 3 + 2, none⟩) hb h.c2 n os⟩
theorem literal_at (x y : Ch) (W : World) : Calls Try.prog 73 #[.agg #[.string x.key, .string x.val, .bool x.gone], .agg #[.string y.key, .string y.val, .bool y.gone]] W fun e w' => e = .returned (.int .i64 (cfC x y)) ∧ ∃ q os', w' = grow (W.drewN q) os' := literal_any x y W
theorem cfC_lt {x y : Ch} (h : cfC x y < 0) : ltC x y = true := by rw [← ltOf_cfC]; exact decide_eq_true h
theorem cfC_ge {x y : Ch} (h : ¬ cfC x y < 0) : ltC x y = false := by rw [← ltOf_cfC]; exact decide_eq_false h
theorem SoW.grown {w wr : World} {blk off m : Nat} {dk : Array Ch} {os : Array Obj} (hw : wr = SoW w blk off m dk os) (n : Nat) (os' : Array Obj) : grow (wr.drewN n) os' = SoW w blk off (m + n) dk (os ++ os') := by
  rw [hw]; exact sortWorldK_grown_c encC 3 w blk off m n dk os os'

def SymPost (w : World) (blk off a m b : Nat) (d : Array Ch) (e : Ending) (w' : World) : Prop := e = .returned (.tuple #[]) ∧ ∃ q d' os, w' = SoW w blk off q d' os ∧ Mrg a m b d d'
/-- The search: below lo all are less, from hi on none is. -/
def FndA (w : World) (blk off a m b : Nat) (d : Array Ch) (g lo hi : Nat) (wr : World) : Prop := m ≤ lo ∧ lo ≤ hi ∧ hi ≤ b ∧ hi - lo ≤ g ∧ (∃ q os, wr = SoW w blk off q d os) ∧ (∀ x, m ≤ x → x < lo → ltC d[x]! d[a]! = true) ∧ ∀ x, hi ≤ x → x < b → ltC d[x]! d[a]! = false
theorem FndA.up {w wr wr' : World} {blk off a m b g lo hi h : Nat} {d : Array Ch} (F : FndA w blk off a m b d g lo hi wr) (hs : Srt d m b) (h1 : lo ≤ h) (h2 : h < hi) (hl : ltC d[h]! d[a]! = true) (hw : ∃ q os, wr' = SoW w blk off q d os) : FndA w blk off a m b d (hi - (h + 1)) (h + 1) hi wr' := by
  obtain ⟨q1, q2, q3, q4, q5, q6, q7⟩ := F
  refine ⟨by omega, by omega, q3, Nat.le_refl _, hw, fun x hx hxh => ?_, q7⟩
  exact leC_ltC (hs.le hx (show x ≤ h by omega) (by omega)) hl
theorem FndA.down {w wr wr' : World} {blk off a m b g lo hi h : Nat} {d : Array Ch} (F : FndA w blk off a m b d g lo hi wr) (hs : Srt d m b) (h1 : lo ≤ h) (h2 : h < hi) (hl : ltC d[h]! d[a]! = false) (hw : ∃ q os, wr' = SoW w blk off q d os) : FndA w blk off a m b d (h - lo) lo h wr' := by
  obtain ⟨q1, q2, q3, q4, q5, q6, q7⟩ := F
  refine ⟨q1, h1, by omega, Nat.le_refl _, hw, q6, fun x hx hxb => ?_⟩
  cases e : ltC d[x]! d[a]! with
  | false => rfl
  | true => rw [leC_ltC (hs.le (show m ≤ h by omega) hx hxb) e] at hl; cases hl
def UpRel (w : World) (blk off a i : Nat) (d : Array Ch) (v : Value) (wr : World) : Prop := ∃ (k q : Nat) (dk : Array Ch) (os : Array Obj), v = .int .i64 k ∧ k < i ∧ wr = SoW w blk off q dk os ∧ Up a i d dk k
set_option maxHeartbeats 4000000 in
set_option maxRecDepth 1000000 in
theorem symA_any (blk off cap a m b : Nat) (d : Array Ch) (w : World) (hH : HoldsK encC 3 w blk off d) (hblk : blk < w.heap.size) (hm : m = a + 1) (hmb : m < b) (hb : b ≤ d.size) (hsz : d.size ≤ 1000000) (hsr : Srt d m b) :
    Calls Try.prog 111 #[.slice (some ⟨blk, off, none⟩) d.size cap, .int .i64 a, .int .i64 m, .int .i64 b, .func (.func 73) #[] #[]] w (SymPost w blk off a m b d) := by
  have HH := Lib.hid hH
  have HB := Lib.hid hblk
  have HSR := Lib.hid hsr
  clear hH hblk hsr
  have hm1 : a + 1 ≤ m := by omega
  have hm2 : m ≤ a + 1 := by omega
  have HM := Lib.hid hm
  have em : ((m : Int) - (a : Int) == 1) = true := by rw [beq_iff_eq]; omega
  clear hm
  generalize hz : d.size = z at *
  have HZ := Lib.hid hz
  clear hz
  have mixed : Try.prog.follows .mixedOrders = true := by kernel_rfl
  go_enter Try.func111, Try.ntmps111
  go_wp2
  go_loopg [10, 11] b (fun kx s10 s11 wr => ∃ (lo hi : Nat), s10 = .int .i64 lo ∧ s11 = .int .i64 hi ∧ FndA w blk off a m b d kx lo hi wr)
  case atStart => exact ⟨m, b, rfl, rfl, Nat.le_refl _, by omega, Nat.le_refl _, by omega, ⟨0, #[], SoW.start HH.out⟩, fun x h1 h2 => by omega, fun x h1 h2 => by omega⟩
  case round =>
    obtain ⟨lo, hi, rfl, rfl, hF⟩ := hrel
    have HF := Lib.hid hF
    obtain ⟨q1, q2, q3, q4, ⟨q, os, hw⟩, q6, q7⟩ := hF
    have HQ := Lib.hid (And.intro q6 q7)
    clear q6 q7
    by_cases hlt : lo < hi
    · have hHd : HoldsK encC 3 wr blk off d := by rw [hw]; exact SoW.holds HH.out HB.out rfl
      have hbl : blk < wr.heap.size := by rw [hw]; exact SoW.lt HB.out
      obtain ⟨i0, i1, i2⟩ := (Cel.of hHd (show (lo + hi) / 2 < d.size by rw [HZ.out]; omega)).grown hbl
      obtain ⟨j0, j1, j2⟩ := (Cel.of hHd (show a < d.size by rw [HZ.out]; omega)).grown hbl
      obtain ⟨h, hh⟩ : ∃ h, h = (lo + hi) / 2 := ⟨_, rfl⟩
      rw [← hh] at i0 i1 i2
      have e0 : ((lo : Int) + (hi : Int)) / 2 = (h : Int) := by omega
      have b1 : h < z := by omega
      have b2 : a < z := by omega
      have b3 : (a : Int) < (z : Int) := by omega
      obtain ⟨x, hx⟩ : ∃ x, x = d[h]! := ⟨_, rfl⟩
      obtain ⟨y, hy⟩ : ∃ y, y = d[a]! := ⟨_, rfl⟩
      rw [← hx] at i0 i1 i2
      rw [← hy] at j0 j1 j2
      have hcg := fun n os => literal_at x y (grow (wr.drewN n) os)
      have HW := Lib.hid hw
      have HX := Lib.hid (And.intro hx hy)
      have HHH := Lib.hid hh
      clear hw hHd hbl hx hy hh
      by_cases hlv : cfC x y < 0
      · have hl : ltC d[h]! d[a]! = true := by rw [← HX.out.1, ← HX.out.2]; exact cfC_lt hlv
        have HL := Lib.hid hl
        clear hl
        generalize cfC x y = r at *
        go_wp2_with fail
        go_quiet_grown (first | (go_at_call 73; refine Calls.grown_of (hcg _ _)))
        go_wp2
        go_roundg (hi - (h + 1))
        case measure => omega
        case rel => exact ⟨h + 1, hi, by first | rfl | go_num | (congr 1; omega), rfl, HF.out.up HSR.out (by have := HHH.out; omega) (by have := HHH.out; omega) HL.out ⟨_, _, SoW.grown HW.out _ _⟩⟩
      · have hl : ltC d[h]! d[a]! = false := by rw [← HX.out.1, ← HX.out.2]; exact cfC_ge hlv
        have HL := Lib.hid hl
        clear hl
        generalize cfC x y = r at *
        go_wp2_with fail
        go_quiet_grown (first | (go_at_call 73; refine Calls.grown_of (hcg _ _)))
        go_wp2
        go_roundg (h - lo)
        case measure => omega
        case rel => exact ⟨lo, h, rfl, by first | rfl | go_num | (congr 1; omega), HF.out.down HSR.out (by have := HHH.out; omega) (by have := HHH.out; omega) HL.out ⟨_, _, SoW.grown HW.out _ _⟩⟩
    · obtain rfl : lo = hi := by omega
      have HW := Lib.hid hw
      clear hw HF
      go_wp2
      go_loopw [13] (fun v wr => UpRel w blk off a lo d v wr) (fun v _ => lo - (intOf v).toNat)
      case atStart => exact ⟨a, q, d, os, rfl, by omega, HW.out, Up.start a lo d⟩
      case round =>
        obtain ⟨k, q', dk, os', rfl, hk, hw', hU⟩ := hrel
        have HU := Lib.hid hU
        have hdz : dk.size = d.size := hU.turns.size
        have hal := hU.le
        by_cases hlt2 : k + 1 < lo
        · have hHd : HoldsK encC 3 wr blk off dk := by rw [hw']; exact SoW.holds HH.out HB.out hdz
          obtain ⟨i0, i1, i2, p0, p1, p2⟩ := Cel.of hHd (show k < dk.size by rw [hdz, HZ.out]; omega)
          obtain ⟨j0, j1, j2, r0, r1, r2⟩ := Cel.of hHd (show k + 1 < dk.size by rw [hdz, HZ.out]; omega)
          have HW' := Lib.hid hw'
          have HD := Lib.hid hdz
          clear hw' hU hdz hHd HW
          obtain ⟨xI, hcI⟩ : ∃ c, c = dk[k]! := ⟨_, rfl⟩
          obtain ⟨xJ, hcJ⟩ : ∃ c, c = dk[k + 1]! := ⟨_, rfl⟩
          rw [← hcI] at i0 i1 i2
          rw [← hcJ] at j0 j1 j2
          have HC := Lib.hid (And.intro hcI hcJ)
          clear hcI hcJ
          have d1 : (k : Int) < (lo : Int) - 1 := by omega
          have d2 : (k : Int) + 1 < (z : Int) := by omega
          have d3 : (k : Int) < (z : Int) := by omega
          have d4 : ((k : Int) + 1).toNat = k + 1 := by omega
          go_wp2_with fail
          go_big_region_o
          all_goals go_wp2
          go_roundw
          case rel => exact ⟨k + 1, q' + 1, swp dk k (k + 1), os', by go_num, hlt2, SoW.swap6 HW'.out HB.out (by rw [HD.out, HZ.out]; omega) (by rw [HD.out, HZ.out]; omega) HC.out.1 HC.out.2, HU.out.step hlt2 (by rw [HZ.out]; omega)⟩
          case measure => simp [intOf]; omega
        · have HW' := Lib.hid hw'
          have d1 : ¬ (k : Int) < (lo : Int) - 1 := by omega
          clear hw'
          go_wp2
          go_end0
          exact ⟨rfl, q', dk, os', HW'.out, Up.done (by rw [show lo - 1 = k by omega]; exact HU.out) HM.out (by omega) q3 HQ.out.1 HQ.out.2⟩
end Go.Proofs.Ytdkjnclbgkcblaa
