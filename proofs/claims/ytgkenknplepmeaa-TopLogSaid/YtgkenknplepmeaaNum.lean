/-
  WALKS: number.Bytes: what it gives, for every number and at most 1000 bytes.
-/
import Derived.Test.YtgkenknplepmeaaByF
import Derived.Test.YtgkenknplepmeaaBlk
namespace Go.Proofs.Ytgkenknplepmeaa
open Go.RowKit

/-- A number's bytes, the least first. -/
def numF (n i : Nat) : UInt8 := UInt8.ofNat (n / 256 ^ i % 256)
def numR (n size : Nat) : ByteArray := ofBytes size (numF n)
theorem make_bytes (w : World) (n : Nat) (hn : n ≤ 1000) : (Instr.makeSlice 107 (.int .i64 n) (.int .i64 n)).run Try.prog w = .ok (.slice (some ⟨w.heap.size, 0, none⟩) n n) (w.alloc (.cells (Array.replicate n (.int .u8 0)) 5)) := by
  have hz1 : Try.t5.size = 1 := by kernel_rfl
  have hz2 : Try.t5.bytes = 1 := by kernel_rfl
  have h := run_makeSlice (P := Try.prog) w 107 5 Try.t5 (.int .u8 0) Try.underlying107 (by kernel_rfl) (by kernel_rfl) .i64 .i64 n n (by omega) (by omega) (by rw [hz1]; simp; omega) (by rw [hz2]; omega) (by omega)
  rw [h]
  have hcs : madeCells (Value.int IntKind.u8 0).cells ((n : Int).toNat * Try.t5.size) = Array.replicate n (Value.int IntKind.u8 0) := by
    rw [hz1]
    simp only [madeCells, Int.toNat_natCast, Nat.mul_one]
    apply Array.ext
    · simp
    · intro i h1 h2
      simp [Value.cells, Nat.mod_one]
  rw [hcs]
  simp
def NmRel (w : World) (g n size : Nat) (nv i : Value) (wr : World) : Prop :=
  ∃ k : Nat, k ≤ size ∧ i = .int .i64 k ∧ nv = .int .u64 ((n / 256 ^ k : Nat) : Int) ∧ ByF wr g size (fun m => if m < k then numF n m else 0) ∧ Below w.heap.size w wr

set_option maxHeartbeats 1000000 in
set_option maxRecDepth 100000 in
theorem number_any (n size : Nat) (w : World) (hn : n < 2 ^ 64) (hs : size ≤ 1000) : Calls Try.prog 67 #[.int .u64 n, .int .i64 size] w fun e w' => e = .returned (.string (numR n size)) ∧ Below w.heap.size w w' := by
  have hmk := make_bytes w size hs
  have d0 : decide ((0 : Int) < (size : Int)) = decide (0 < size) := by simp
  go_enter Try.func67, Try.ntmps67
  go_wp2_with fail
  clear hmk
  generalize hw0 : w.alloc (.cells (Array.replicate size (.int .u8 0)) 5) = w0 at *
  have HB0 := Lib.hid (show Below w.heap.size w w0 by rw [← hw0]; exact (Below.refl _ _).alloc (Nat.le_refl _) _)
  have HY0 := Lib.hid (show ByF w0 w.heap.size size (fun _ => 0) by
    rw [← hw0]
    refine ⟨Array.replicate size (.int .u8 0), 5, _, (Blk.new w 5 (Array.replicate size (.int .u8 0))), ?_, fun j hj => ?_⟩
    · exact .inr rfl
    · simp [Array.getElem?_replicate, hj])
  clear hw0
  go_loopw [0, 12] (fun nv i wr => NmRel w w.heap.size n size nv i wr) (fun _ i _ => size - (intOf i).toNat)
  case atStart => exact ⟨0, Nat.zero_le _, rfl, by simp, HY0.out.congr (fun m _ => by simp), HB0.out⟩
  case round =>
    obtain ⟨k, hk, rfl, rfl, hby, hb⟩ := hrel
    have HY := Lib.hid hby
    have HB := Lib.hid hb
    clear hby hb
    by_cases hlt : k < size
    · have zk : wr.frozen? ⟨w.heap.size, k, none⟩ = false := HY.out.frozen hlt
      have ck := HY.out.cell (j := k) hlt
      have i1 : (k : Int) < (size : Int) := by omega
      go_wp2_with fail
      go_roundw
      case rel =>
        have e1 : (n : Int) / 256 ^ k / 256 = ((n / 256 ^ (k + 1) : Nat) : Int) := by
          rw [Nat.pow_succ, ← Nat.div_div_eq_div_mul]; simp
        have e2 : (n : Int) / 256 ^ k % 256 = ((numF n k).toNat : Int) := by
          unfold numF
          have : n / 256 ^ k % 256 < 256 := Nat.mod_lt _ (by omega)
          rw [UInt8.toNat_ofNat_of_lt' (by simpa using this)]; simp
        rw [e1, e2]
        refine ⟨k + 1, by omega, by go_num, rfl, (HY.out.set (j := k) (numF n k)).congr (fun m _ => ?_), HB.out.setCell (Nat.le_refl _) _⟩
        by_cases hm : m = k
        · subst hm; simp
        · have h1 : (m < k + 1) = (m < k) := by rw [eq_iff_iff]; omega
          simp [hm, h1]
      case measure => simp [intOf]; omega
    · obtain rfl : k = size := by omega
      have hby := HY.out.congr (f' := numF n) (fun m hm => by simp [hm])
      have hback := convert_back (P := Try.prog) wr 107 9 5 w.heap.size k k _ Try.underlying107 Try.underlying5 Try.underlying9 hby
      clear hby
      go_wp2_with fail
      go_ret
      exact ⟨rfl, HB.out⟩
end Go.Proofs.Ytgkenknplepmeaa
