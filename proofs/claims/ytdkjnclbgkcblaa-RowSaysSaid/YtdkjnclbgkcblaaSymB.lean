/-
  WALKS: slices.symMergeCmpFunc of changes where the right part has one element, and the left part more.
-/
import Derived.Test.YtdkjnclbgkcblaaSymA
namespace Go.Proofs.Ytdkjnclbgkcblaa
open Go.RowKit Go.Sort Go.Shelf

def FndB (w : World) (blk off a m : Nat) (d : Array Ch) (g lo hi : Nat) (wr : World) : Prop := a ≤ lo ∧ lo ≤ hi ∧ hi ≤ m ∧ hi - lo ≤ g ∧ (∃ q os, wr = SoW w blk off q d os) ∧ (∀ x, a ≤ x → x < lo → ltC d[m]! d[x]! = false) ∧ ∀ x, hi ≤ x → x < m → ltC d[m]! d[x]! = true
theorem FndB.up {w wr wr' : World} {blk off a m g lo hi h : Nat} {d : Array Ch} (F : FndB w blk off a m d g lo hi wr) (hs : Srt d a m) (h1 : lo ≤ h) (h2 : h < hi) (hl : ltC d[m]! d[h]! = false) (hw : ∃ q os, wr' = SoW w blk off q d os) : FndB w blk off a m d (hi - (h + 1)) (h + 1) hi wr' := by
  obtain ⟨q1, q2, q3, q4, q5, q6, q7⟩ := F
  refine ⟨by omega, by omega, q3, Nat.le_refl _, hw, fun x hx hxh => ?_, q7⟩
  cases e : ltC d[m]! d[x]! with
  | false => rfl
  | true => rw [ltC_leC e (hs.le hx (show x ≤ h by omega) (by omega))] at hl; cases hl
theorem FndB.down {w wr wr' : World} {blk off a m g lo hi h : Nat} {d : Array Ch} (F : FndB w blk off a m d g lo hi wr) (hs : Srt d a m) (h1 : lo ≤ h) (h2 : h < hi) (hl : ltC d[m]! d[h]! = true) (hw : ∃ q os, wr' = SoW w blk off q d os) : FndB w blk off a m d (h - lo) lo h wr' := by
  obtain ⟨q1, q2, q3, q4, q5, q6, q7⟩ := F
  refine ⟨q1, h1, by omega, Nat.le_refl _, hw, q6, fun x hx hxb => ?_⟩
  exact ltC_leC hl (hs.le (show a ≤ h by omega) hx hxb)
def DnRel (w : World) (blk off i m : Nat) (d : Array Ch) (v : Value) (wr : World) : Prop := ∃ (k q : Nat) (dk : Array Ch) (os : Array Obj), v = .int .i64 k ∧ i ≤ k ∧ wr = SoW w blk off q dk os ∧ Dn i m d dk k
set_option maxHeartbeats 4000000 in
set_option maxRecDepth 1000000 in
theorem symB_any (blk off cap a m b : Nat) (d : Array Ch) (w : World) (hH : HoldsK encC 3 w blk off d) (hblk : blk < w.heap.size) (hm : b = m + 1) (ham : a + 1 < m) (hb : b ≤ d.size) (hsz : d.size ≤ 1000000) (hsr : Srt d a m) :
    Calls Try.prog 111 #[.slice (some ⟨blk, off, none⟩) d.size cap, .int .i64 a, .int .i64 m, .int .i64 b, .func (.func 73) #[] #[]] w (SymPost w blk off a m b d) := by
  have HH := Lib.hid hH
  have HB := Lib.hid hblk
  have HSR := Lib.hid hsr
  clear hH hblk hsr
  have hm1 : m + 1 ≤ b := by omega
  have hm2 : b ≤ m + 1 := by omega
  have HM := Lib.hid hm
  have em : ((b : Int) - (m : Int) == 1) = true := by rw [beq_iff_eq]; omega
  have en : ((m : Int) - (a : Int) == 1) = false := by rw [beq_eq_false_iff_ne]; omega
  clear hm
  generalize hz : d.size = z at *
  have HZ := Lib.hid hz
  clear hz
  have mixed : Try.prog.follows .mixedOrders = true := by kernel_rfl
  go_enter Try.func111, Try.ntmps111
  go_wp2
  go_loopg [14, 15] m (fun kx s10 s11 wr => ∃ (lo hi : Nat), s10 = .int .i64 lo ∧ s11 = .int .i64 hi ∧ FndB w blk off a m d kx lo hi wr)
  case atStart => exact ⟨a, m, rfl, rfl, Nat.le_refl _, by omega, Nat.le_refl _, by omega, ⟨0, #[], SoW.start HH.out⟩, fun x h1 h2 => by omega, fun x h1 h2 => by omega⟩
  case round =>
    obtain ⟨lo, hi, rfl, rfl, hF⟩ := hrel
    have HF := Lib.hid hF
    obtain ⟨q1, q2, q3, q4, ⟨q, os, hw⟩, q6, q7⟩ := hF
    have HQ := Lib.hid (And.intro q6 q7)
    clear q6 q7
    by_cases hlt : lo < hi
    · have hHd : HoldsK encC 3 wr blk off d := by rw [hw]; exact SoW.holds HH.out HB.out rfl
      have hbl : blk < wr.heap.size := by rw [hw]; exact SoW.lt HB.out
      obtain ⟨i0, i1, i2⟩ := (Cel.of hHd (show (lo + hi) / 2 < d.size by rw [HZ.out]; omega)).grown hbl
      obtain ⟨j0, j1, j2⟩ := (Cel.of hHd (show m < d.size by rw [HZ.out]; omega)).grown hbl
      obtain ⟨h, hh⟩ : ∃ h, h = (lo + hi) / 2 := ⟨_, rfl⟩
      rw [← hh] at i0 i1 i2
      have e0 : ((lo : Int) + (hi : Int)) / 2 = (h : Int) := by omega
      have b1 : h < z := by omega
      have b2 : m < z := by omega
      have b3 : (m : Int) < (z : Int) := by omega
      obtain ⟨x, hx⟩ : ∃ x, x = d[h]! := ⟨_, rfl⟩
      obtain ⟨y, hy⟩ : ∃ y, y = d[m]! := ⟨_, rfl⟩
      rw [← hx] at i0 i1 i2
      rw [← hy] at j0 j1 j2
      have hcg := fun n os => literal_at y x (grow (wr.drewN n) os)
      have HW := Lib.hid hw
      have HX := Lib.hid (And.intro hx hy)
      have HHH := Lib.hid hh
      clear hw hHd hbl hx hy hh
      by_cases hlv : cfC y x < 0
      · have hl : ltC d[m]! d[h]! = true := by rw [← HX.out.1, ← HX.out.2]; exact cfC_lt hlv
        have HL := Lib.hid hl
        clear hl
        generalize cfC y x = r at *
        go_wp2_with fail
        go_quiet_grown (first | (go_at_call 73; refine Calls.grown_of (hcg _ _)))
        go_wp2
        go_roundg (h - lo)
        case measure => omega
        case rel => exact ⟨lo, h, rfl, by first | rfl | go_num | (congr 1; omega), HF.out.down HSR.out (by have := HHH.out; omega) (by have := HHH.out; omega) HL.out ⟨_, _, SoW.grown HW.out _ _⟩⟩
      · have hl : ltC d[m]! d[h]! = false := by rw [← HX.out.1, ← HX.out.2]; exact cfC_ge hlv
        have HL := Lib.hid hl
        clear hl
        generalize cfC y x = r at *
        have hd : decide (r < 0) = false := decide_eq_false hlv
        go_wp2_with fail
        go_quiet_grown (first | (go_at_call 73; refine Calls.grown_of (hcg _ _)))
        go_wp2
        go_roundg (hi - (h + 1))
        case measure => omega
        case rel => exact ⟨h + 1, hi, by first | rfl | go_num | (congr 1; omega), rfl, HF.out.up HSR.out (by have := HHH.out; omega) (by have := HHH.out; omega) HL.out ⟨_, _, SoW.grown HW.out _ _⟩⟩
    · obtain rfl : lo = hi := by omega
      have HW := Lib.hid hw
      clear hw HF
      go_wp2
      go_loopw [17] (fun v wr => DnRel w blk off lo m d v wr) (fun v _ => (intOf v).toNat - lo)
      case atStart => exact ⟨m, q, d, os, rfl, by omega, HW.out, Dn.start lo m d⟩
      case round =>
        obtain ⟨k, q', dk, os', rfl, hk, hw', hU⟩ := hrel
        have HU := Lib.hid hU
        have hdz : dk.size = d.size := hU.turns.size
        have hal := hU.le
        by_cases hlt2 : lo < k
        · obtain ⟨kp, rfl⟩ : ∃ kp, k = kp + 1 := ⟨k - 1, by omega⟩
          have hHd : HoldsK encC 3 wr blk off dk := by rw [hw']; exact SoW.holds HH.out HB.out hdz
          obtain ⟨i0, i1, i2, p0, p1, p2⟩ := Cel.of hHd (show kp + 1 < dk.size by rw [hdz, HZ.out]; omega)
          obtain ⟨j0, j1, j2, r0, r1, r2⟩ := Cel.of hHd (show kp < dk.size by rw [hdz, HZ.out]; omega)
          have HW' := Lib.hid hw'
          have HD := Lib.hid hdz
          clear hw' hU hdz hHd HW
          obtain ⟨xI, hcI⟩ : ∃ c, c = dk[kp + 1]! := ⟨_, rfl⟩
          obtain ⟨xJ, hcJ⟩ : ∃ c, c = dk[kp]! := ⟨_, rfl⟩
          rw [← hcI] at i0 i1 i2
          rw [← hcJ] at j0 j1 j2
          have HC := Lib.hid (And.intro hcI hcJ)
          clear hcI hcJ
          have d1 : (lo : Int) < (kp : Int) + 1 := by omega
          have d2 : (kp : Int) + 1 < (z : Int) := by omega
          have d3 : (kp : Int) < (z : Int) := by omega
          have d4 : ((kp : Int) + 1).toNat = kp + 1 := by omega
          have d5 : IntKind.i64.wrap (kp : Int) = (kp : Int) := by rw [IntKind.wrap_i64]; omega
          go_wp2_with fail
          go_big_region_o
          all_goals go_wp2
          go_roundw
          case rel => exact ⟨kp, q' + 1, swp dk (kp + 1) kp, os', by first | rfl | go_num | (congr 1; omega), by omega, SoW.swap6 HW'.out HB.out (by rw [HD.out, HZ.out]; omega) (by rw [HD.out, HZ.out]; omega) HC.out.1 HC.out.2, HU.out.step (by omega) (by rw [HZ.out]; omega)⟩
          case measure => simp [intOf]; omega
        · have HW' := Lib.hid hw'
          have d1 : ¬ (lo : Int) < (k : Int) := by omega
          clear hw'
          go_wp2
          go_end0
          obtain rfl : k = lo := by omega
          exact ⟨rfl, q', dk, os', HW'.out, Dn.done HU.out HM.out q1 q3 HQ.out.1 HQ.out.2⟩
end Go.Proofs.Ytdkjnclbgkcblaa
