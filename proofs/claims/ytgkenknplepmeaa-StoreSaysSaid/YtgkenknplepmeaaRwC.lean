/-
  WORDS: a change as bytes (encR, encV); a change that lies in a block of its own (StC).
-/
import Derived.Test.YtgkenknplepmeaaApp
import Derived.Test.YtgkenknplepmeaaAp
import Derived.Test.YtgkenknplepmeaaDkA
import Derived.Test.YtgkenknplepmeaaPlain
namespace Go.Proofs.Ytgkenknplepmeaa
open Go.RowKit

def Ch.v (c : Ch) : Value := .agg #[.string c.key, .string c.val, .bool c.gone]
/-- What is wrong with a change, by its number. -/
def ckR (c : Ch) : Int :=
  if (keyB pF c.key || keyB pD c.key) && !(c.gone && !c.val.toList.isEmpty) then
    if decide (300 < c.val.size) || (keyB pF c.key && decide (20 < c.val.size)) then 2 else 0
  else 3
set_option maxHeartbeats 1000000 in
set_option maxRecDepth 100000 in
theorem check_any (c : Ch) (w : World) (hs : c.key.size ≤ 1000000) : Calls Try.prog 34 #[c.v] w fun e w' => e = .returned (erV (ckR c)) ∧ Below w.heap.size w w' := by
  obtain ⟨key, val, gone⟩ := c
  have HF := Lib.hid (fun w => isFile_any key w hs)
  have HD := Lib.hid (fun w => isMade_any key w hs)
  unfold Ch.v ckR
  simp only
  generalize keyB pF key = kF at HF ⊢
  generalize keyB pD key = kD at HD ⊢
  cases kF with
  | true =>
    cases gone with
    | false =>
      by_cases h3 : 300 < val.size
      · have d3 : (300 : Int) < (val.size : Int) := by omega
        go_enter Try.func34, Try.ntmps34
        go_wp2_with fail
        refine (HF.out _).mono ?_
        rintro e w1 ⟨rfl, rfl⟩
        go_wp2_with fail
        go_ret
        exact ⟨by simp [h3, erV], (Below.refl _ _).alloc (Nat.le_refl _) _⟩
      have d3 : decide ((300 : Int) < (val.size : Int)) = false := decide_eq_false (by omega)
      by_cases h2 : 20 < val.size
      · have d2 : (20 : Int) < (val.size : Int) := by omega
        go_enter Try.func34, Try.ntmps34
        go_wp2_with fail
        refine (HF.out _).mono ?_
        rintro e w1 ⟨rfl, rfl⟩
        go_wp2_with fail
        refine (HF.out _).mono ?_
        rintro e w1 ⟨rfl, rfl⟩
        go_wp2_with fail
        go_ret
        exact ⟨by simp [h2, erV], (Below.refl _ _).alloc (Nat.le_refl _) _⟩
      have d2 : decide ((20 : Int) < (val.size : Int)) = false := decide_eq_false (by omega)
      go_enter Try.func34, Try.ntmps34
      go_wp2_with fail
      refine (HF.out _).mono ?_
      rintro e w1 ⟨rfl, rfl⟩
      go_wp2_with fail
      refine (HF.out _).mono ?_
      rintro e w1 ⟨rfl, rfl⟩
      go_wp2_with fail
      go_ret
      exact ⟨by simp [h2, h3, erV], (Below.refl _ _).alloc (Nat.le_refl _) _⟩
    | true =>
      cases he : val.toList.isEmpty with
      | true =>
        have hv : val.size = 0 := by
          have h0 : val.data = #[] := by simpa [ByteArray.toList_eq] using he
          show val.data.size = 0
          rw [h0]; rfl
        have he' : (!val.toList.isEmpty) = false := by rw [he]; rfl
        have d3 : decide ((300 : Int) < (val.size : Int)) = false := decide_eq_false (by omega)
        have d2 : decide ((20 : Int) < (val.size : Int)) = false := decide_eq_false (by omega)
        clear he
        go_enter Try.func34, Try.ntmps34
        go_wp2_with fail
        refine (HF.out _).mono ?_
        rintro e w1 ⟨rfl, rfl⟩
        go_wp2_with fail
        refine (HF.out _).mono ?_
        rintro e w1 ⟨rfl, rfl⟩
        go_wp2_with fail
        go_ret
        exact ⟨by simp [erV, *], (Below.refl _ _).alloc (Nat.le_refl _) _⟩
      | false =>
        have he' : (!val.toList.isEmpty) = true := by rw [he]; rfl
        clear he
        go_enter Try.func34, Try.ntmps34
        go_wp2_with fail
        refine (HF.out _).mono ?_
        rintro e w1 ⟨rfl, rfl⟩
        go_wp2_with fail
        go_ret
        exact ⟨by simp [erV, *], (Below.refl _ _).alloc (Nat.le_refl _) _⟩
  | false =>
    cases kD with
    | true =>
      cases gone with
      | false =>
        by_cases h3 : 300 < val.size
        · have d3 : (300 : Int) < (val.size : Int) := by omega
          go_enter Try.func34, Try.ntmps34
          go_wp2_with fail
          refine (HF.out _).mono ?_
          rintro e w1 ⟨rfl, rfl⟩
          go_wp2_with fail
          refine (HD.out _).mono ?_
          rintro e w1 ⟨rfl, rfl⟩
          go_wp2_with fail
          go_ret
          exact ⟨by simp [h3, erV], (Below.refl _ _).alloc (Nat.le_refl _) _⟩
        have d3 : decide ((300 : Int) < (val.size : Int)) = false := decide_eq_false (by omega)
        go_enter Try.func34, Try.ntmps34
        go_wp2_with fail
        refine (HF.out _).mono ?_
        rintro e w1 ⟨rfl, rfl⟩
        go_wp2_with fail
        refine (HD.out _).mono ?_
        rintro e w1 ⟨rfl, rfl⟩
        go_wp2_with fail
        refine (HF.out _).mono ?_
        rintro e w1 ⟨rfl, rfl⟩
        go_wp2_with fail
        go_ret
        exact ⟨by simp [h3, erV], (Below.refl _ _).alloc (Nat.le_refl _) _⟩
      | true =>
        cases he : val.toList.isEmpty with
        | true =>
          have hv : val.size = 0 := by
            have h0 : val.data = #[] := by simpa [ByteArray.toList_eq] using he
            show val.data.size = 0
            rw [h0]; rfl
          have he' : (!val.toList.isEmpty) = false := by rw [he]; rfl
          have d3 : decide ((300 : Int) < (val.size : Int)) = false := decide_eq_false (by omega)
          have d2 : decide ((20 : Int) < (val.size : Int)) = false := decide_eq_false (by omega)
          clear he
          go_enter Try.func34, Try.ntmps34
          go_wp2_with fail
          refine (HF.out _).mono ?_
          rintro e w1 ⟨rfl, rfl⟩
          go_wp2_with fail
          refine (HD.out _).mono ?_
          rintro e w1 ⟨rfl, rfl⟩
          go_wp2_with fail
          refine (HF.out _).mono ?_
          rintro e w1 ⟨rfl, rfl⟩
          go_wp2_with fail
          go_ret
          exact ⟨by simp [erV, *], (Below.refl _ _).alloc (Nat.le_refl _) _⟩
        | false =>
          have he' : (!val.toList.isEmpty) = true := by rw [he]; rfl
          clear he
          go_enter Try.func34, Try.ntmps34
          go_wp2_with fail
          refine (HF.out _).mono ?_
          rintro e w1 ⟨rfl, rfl⟩
          go_wp2_with fail
          refine (HD.out _).mono ?_
          rintro e w1 ⟨rfl, rfl⟩
          go_wp2_with fail
          go_ret
          exact ⟨by simp [erV, *], (Below.refl _ _).alloc (Nat.le_refl _) _⟩
    | false =>
      go_enter Try.func34, Try.ntmps34
      go_wp2_with fail
      refine (HF.out _).mono ?_
      rintro e w1 ⟨rfl, rfl⟩
      go_wp2_with fail
      refine (HD.out _).mono ?_
      rintro e w1 ⟨rfl, rfl⟩
      go_wp2_with fail
      go_ret
      exact ⟨by simp [erV, *], (Below.refl _ _).alloc (Nat.le_refl _) _⟩
end Go.Proofs.Ytgkenknplepmeaa
namespace Go.Proofs.Ytgkenknplepmeaa
open Go.RowKit

/-- A change as bytes. -/
def encR (c : Ch) : ByteArray := numR (if c.gone then 1 else 0) 1 ++ numR c.key.size 1 ++ c.key ++ c.val
def encV (c : Ch) : Value := if ckR c = 0 then .tuple #[.string (encR c), .nilIface] else .tuple #[.string ByteArray.empty, erV (ckR c)]
theorem ckR_cases (c : Ch) : ckR c = 0 ∨ ckR c = 2 ∨ ckR c = 3 := by
  unfold ckR
  split
  · split
    · exact .inr (.inl rfl)
    · exact .inl rfl
  · exact .inr (.inr rfl)
/-- A change that lies in a block of its own. -/
structure StC (w0 : World) (key val : ByteArray) (gone : Bool) (w : World) : Prop where
  c0 : w.cell? ⟨w0.heap.size, 0, none⟩ = some (.string key)
  c1 : w.cell? ⟨w0.heap.size, 1, none⟩ = some (.string val)
  c2 : w.cell? ⟨w0.heap.size, 2, none⟩ = some (.bool gone)
  b : Below w0.heap.size w0 w
  lt : w0.heap.size < w.heap.size
theorem StC.new (w : World) (key val : ByteArray) (gone : Bool) (t : TypeId) : StC w key val gone (w.alloc (.cells #[.string key, .string val, .bool gone] t)) := by
  have h := Blk.new w t #[.string key, .string val, .bool gone]
  exact ⟨h.cell 0, h.cell 1, h.cell 2, (Below.refl _ _).alloc (Nat.le_refl _) _, by simp⟩
theorem StC.step {w0 w w' : World} {key val : ByteArray} {gone : Bool} (h : StC w0 key val gone w) (hb : Below w.heap.size w w') : StC w0 key val gone w' :=
  ⟨(hb.cell (p := ⟨w0.heap.size, 0, none⟩) h.lt).trans h.c0, (hb.cell (p := ⟨w0.heap.size, 1, none⟩) h.lt).trans h.c1, (hb.cell (p := ⟨w0.heap.size, 2, none⟩) h.lt).trans h.c2, h.b.trans (hb.mono (Nat.le_of_lt h.lt)), by have := hb.size; have := h.lt; omega⟩
theorem StC.drewN {w0 w : World} {key val : ByteArray} {gone : Bool} (h : StC w0 key val gone w) (k : Nat) : StC w0 key val gone (w.drewN k) := ⟨h.c0, h.c1, h.c2, ⟨h.b.1, h.b.2, h.b.3, h.b.4, h.b.5⟩, h.lt⟩
theorem StC.drew {w0 w : World} {key val : ByteArray} {gone : Bool} (h : StC w0 key val gone w) : StC w0 key val gone w.drew := h.drewN 1
theorem numR_size (n k : Nat) : (numR n k).size = k := by
  show (((List.range k).map (numF n)).toArray).size = k
  simp
theorem num1 (g : Nat) (w : World) (hg : g < 2 ^ 64) : Calls Try.prog 67 #[.int .u64 (g : Int), .int .i64 1] w fun e w' => e = .returned (.string (numR g 1)) ∧ Below w.heap.size w w' := number_any g 1 w hg (by omega)
end Go.Proofs.Ytgkenknplepmeaa
