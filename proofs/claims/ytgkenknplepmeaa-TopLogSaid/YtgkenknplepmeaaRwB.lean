/-
  WALKS: row.Check: what it gives, for every change.
-/
import Derived.Test.YtgkenknplepmeaaRw
import Derived.Test.YtgkenknplepmeaaDeeds
import Derived.Test.YtgkenknplepmeaaDkA
namespace Go.Proofs.Ytgkenknplepmeaa
open Go.RowKit

def Ch.v (c : Ch) : Value := .agg #[.string c.key, .string c.val, .bool c.gone]
/-- What is wrong with a change, by its number. -/
def ckR (c : Ch) : Int :=
  if (keyB pF c.key || keyB pD c.key) && !(c.gone && !c.val.toList.isEmpty) then
    if decide (300 < c.val.size) || (keyB pF c.key && decide (20 < c.val.size)) then 2 else 0
  else 3
set_option maxHeartbeats 1000000 in
set_option maxRecDepth 100000 in
theorem check_any (c : Ch) (w : World) (hs : c.key.size ≤ 1000000) : Calls Try.prog 34 #[c.v] w fun e w' => e = .returned (erV (ckR c)) ∧ Below w.heap.size w w' := by
  obtain ⟨key, val, gone⟩ := c
  have HF := Lib.hid (fun w => isFile_any key w hs)
  have HD := Lib.hid (fun w => isMade_any key w hs)
  unfold Ch.v ckR
  simp only
  generalize keyB pF key = kF at HF ⊢
  generalize keyB pD key = kD at HD ⊢
  cases kF with
  | true =>
    cases gone with
    | false =>
      by_cases h3 : 300 < val.size
      · have d3 : (300 : Int) < (val.size : Int) := by omega
        go_enter Try.func34, Try.ntmps34
        go_wp2_with fail
        refine (HF.out _).mono ?_
        rintro e w1 ⟨rfl, rfl⟩
        go_wp2_with fail
        go_ret
        exact ⟨by simp [h3, erV], (Below.refl _ _).alloc (Nat.le_refl _) _⟩
      have d3 : decide ((300 : Int) < (val.size : Int)) = false := decide_eq_false (by omega)
      by_cases h2 : 20 < val.size
      · have d2 : (20 : Int) < (val.size : Int) := by omega
        go_enter Try.func34, Try.ntmps34
        go_wp2_with fail
        refine (HF.out _).mono ?_
        rintro e w1 ⟨rfl, rfl⟩
        go_wp2_with fail
        refine (HF.out _).mono ?_
        rintro e w1 ⟨rfl, rfl⟩
        go_wp2_with fail
        go_ret
        exact ⟨by simp [h2, erV], (Below.refl _ _).alloc (Nat.le_refl _) _⟩
      have d2 : decide ((20 : Int) < (val.size : Int)) = false := decide_eq_false (by omega)
      go_enter Try.func34, Try.ntmps34
      go_wp2_with fail
      refine (HF.out _).mono ?_
      rintro e w1 ⟨rfl, rfl⟩
      go_wp2_with fail
      refine (HF.out _).mono ?_
      rintro e w1 ⟨rfl, rfl⟩
      go_wp2_with fail
      go_ret
      exact ⟨by simp [h2, h3, erV], (Below.refl _ _).alloc (Nat.le_refl _) _⟩
    | true =>
      cases he : val.toList.isEmpty with
      | true =>
        have hv : val.size = 0 := by
          have h0 : val.data = #[] := by simpa [ByteArray.toList_eq] using he
          show val.data.size = 0
          rw [h0]; rfl
        have he' : (!val.toList.isEmpty) = false := by rw [he]; rfl
        have d3 : decide ((300 : Int) < (val.size : Int)) = false := decide_eq_false (by omega)
        have d2 : decide ((20 : Int) < (val.size : Int)) = false := decide_eq_false (by omega)
        clear he
        go_enter Try.func34, Try.ntmps34
        go_wp2_with fail
        refine (HF.out _).mono ?_
        rintro e w1 ⟨rfl, rfl⟩
        go_wp2_with fail
        refine (HF.out _).mono ?_
        rintro e w1 ⟨rfl, rfl⟩
        go_wp2_with fail
        go_ret
        exact ⟨by simp [erV, *], (Below.refl _ _).alloc (Nat.le_refl _) _⟩
      | false =>
        have he' : (!val.toList.isEmpty) = true := by rw [he]; rfl
        clear he
        go_enter Try.func34, Try.ntmps34
        go_wp2_with fail
        refine (HF.out _).mono ?_
        rintro e w1 ⟨rfl, rfl⟩
        go_wp2_with fail
        go_ret
        exact ⟨by simp [erV, *], (Below.refl _ _).alloc (Nat.le_refl _) _⟩
  | false =>
    cases kD with
    | true =>
      cases gone with
      | false =>
        by_cases h3 : 300 < val.size
        · have d3 : (300 : Int) < (val.size : Int) := by omega
          go_enter Try.func34, Try.ntmps34
          go_wp2_with fail
          refine (HF.out _).mono ?_
          rintro e w1 ⟨rfl, rfl⟩
          go_wp2_with fail
          refine (HD.out _).mono ?_
          rintro e w1 ⟨rfl, rfl⟩
          go_wp2_with fail
          go_ret
          exact ⟨by simp [h3, erV], (Below.refl _ _).alloc (Nat.le_refl _) _⟩
        have d3 : decide ((300 : Int) < (val.size : Int)) = false := decide_eq_false (by omega)
        go_enter Try.func34, Try.ntmps34
        go_wp2_with fail
        refine (HF.out _).mono ?_
        rintro e w1 ⟨rfl, rfl⟩
        go_wp2_with fail
        refine (HD.out _).mono ?_
        rintro e w1 ⟨rfl, rfl⟩
        go_wp2_with fail
        refine (HF.out _).mono ?_
        rintro e w1 ⟨rfl, rfl⟩
        go_wp2_with fail
        go_ret
        exact ⟨by simp [h3, erV], (Below.refl _ _).alloc (Nat.le_refl _) _⟩
      | true =>
        cases he : val.toList.isEmpty with
        | true =>
          have hv : val.size = 0 := by
            have h0 : val.data = #[] := by simpa [ByteArray.toList_eq] using he
            show val.data.size = 0
            rw [h0]; rfl
          have he' : (!val.toList.isEmpty) = false := by rw [he]; rfl
          have d3 : decide ((300 : Int) < (val.size : Int)) = false := decide_eq_false (by omega)
          have d2 : decide ((20 : Int) < (val.size : Int)) = false := decide_eq_false (by omega)
          clear he
          go_enter Try.func34, Try.ntmps34
          go_wp2_with fail
          refine (HF.out _).mono ?_
          rintro e w1 ⟨rfl, rfl⟩
          go_wp2_with fail
          refine (HD.out _).mono ?_
          rintro e w1 ⟨rfl, rfl⟩
          go_wp2_with fail
          refine (HF.out _).mono ?_
          rintro e w1 ⟨rfl, rfl⟩
          go_wp2_with fail
          go_ret
          exact ⟨by simp [erV, *], (Below.refl _ _).alloc (Nat.le_refl _) _⟩
        | false =>
          have he' : (!val.toList.isEmpty) = true := by rw [he]; rfl
          clear he
          go_enter Try.func34, Try.ntmps34
          go_wp2_with fail
          refine (HF.out _).mono ?_
          rintro e w1 ⟨rfl, rfl⟩
          go_wp2_with fail
          refine (HD.out _).mono ?_
          rintro e w1 ⟨rfl, rfl⟩
          go_wp2_with fail
          go_ret
          exact ⟨by simp [erV, *], (Below.refl _ _).alloc (Nat.le_refl _) _⟩
    | false =>
      go_enter Try.func34, Try.ntmps34
      go_wp2_with fail
      refine (HF.out _).mono ?_
      rintro e w1 ⟨rfl, rfl⟩
      go_wp2_with fail
      refine (HD.out _).mono ?_
      rintro e w1 ⟨rfl, rfl⟩
      go_wp2_with fail
      go_ret
      exact ⟨by simp [erV, *], (Below.refl _ _).alloc (Nat.le_refl _) _⟩
end Go.Proofs.Ytgkenknplepmeaa
