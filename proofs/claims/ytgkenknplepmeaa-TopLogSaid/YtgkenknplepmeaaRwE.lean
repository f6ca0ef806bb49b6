/-
  WALK: row.Check, with the world behind it told.
-/
import Derived.Test.YtgkenknplepmeaaRwB
namespace Go.Proofs.Ytgkenknplepmeaa
open Go.RowKit

set_option maxHeartbeats 1000000 in
set_option maxRecDepth 100000 in
theorem check_all (c : Ch) (w : World) (hs : c.key.size ≤ 1000000) : Calls Try.prog 34 #[c.v] w fun e w' => e = .returned (erV (ckR c)) ∧ ∃ o, w' = w.alloc o := by
  obtain ⟨key, val, gone⟩ := c
  have HF := Lib.hid (fun w => isFile_any key w hs)
  have HD := Lib.hid (fun w => isMade_any key w hs)
  unfold Ch.v ckR
  simp only
  generalize keyB pF key = kF at HF ⊢
  generalize keyB pD key = kD at HD ⊢
  cases kF with
  | true =>
    cases gone with
    | false =>
      by_cases h3 : 300 < val.size
      · have d3 : (300 : Int) < (val.size : Int) := by omega
        go_enter Try.func34, Try.ntmps34
        go_wp2_with fail
        refine (HF.out _).mono ?_
        rintro e w1 ⟨rfl, rfl⟩
        go_wp2_with fail
        go_ret
        exact ⟨by simp [h3, erV], _, rfl⟩
      have d3 : decide ((300 : Int) < (val.size : Int)) = false := decide_eq_false (by omega)
      by_cases h2 : 20 < val.size
      · have d2 : (20 : Int) < (val.size : Int) := by omega
        go_enter Try.func34, Try.ntmps34
        go_wp2_with fail
        refine (HF.out _).mono ?_
        rintro e w1 ⟨rfl, rfl⟩
        go_wp2_with fail
        refine (HF.out _).mono ?_
        rintro e w1 ⟨rfl, rfl⟩
        go_wp2_with fail
        go_ret
        exact ⟨by simp [h2, erV], _, rfl⟩
      have d2 : decide ((20 : Int) < (val.size : Int)) = false := decide_eq_false (by omega)
      go_enter Try.func34, Try.ntmps34
      go_wp2_with fail
      refine (HF.out _).mono ?_
      rintro e w1 ⟨rfl, rfl⟩
      go_wp2_with fail
      refine (HF.out _).mono ?_
      rintro e w1 ⟨rfl, rfl⟩
      go_wp2_with fail
      go_ret
      exact ⟨by simp [h2, h3, erV], _, rfl⟩
    | true =>
      cases he : val.toList.isEmpty with
      | true =>
        have hv : val.size = 0 := by
          have h0 : val.data = #[] := by simpa [ByteArray.toList_eq] using he
          show val.data.size = 0
          rw [h0]; rfl
        have he' : (!val.toList.isEmpty) = false := by rw [he]; rfl
        have d3 : decide ((300 : Int) < (val.size : Int)) = false := decide_eq_false (by omega)
        have d2 : decide ((20 : Int) < (val.size : Int)) = false := decide_eq_false (by omega)
        clear he
        go_enter Try.func34, Try.ntmps34
        go_wp2_with fail
        refine (HF.out _).mono ?_
        rintro e w1 ⟨rfl, rfl⟩
        go_wp2_with fail
        refine (HF.out _).mono ?_
        rintro e w1 ⟨rfl, rfl⟩
        go_wp2_with fail
        go_ret
        exact ⟨by simp [erV, *], _, rfl⟩
      | false =>
        have he' : (!val.toList.isEmpty) = true := by rw [he]; rfl
        clear he
        go_enter Try.func34, Try.ntmps34
        go_wp2_with fail
        refine (HF.out _).mono ?_
        rintro e w1 ⟨rfl, rfl⟩
        go_wp2_with fail
        go_ret
        exact ⟨by simp [erV, *], _, rfl⟩
  | false =>
    cases kD with
    | true =>
      cases gone with
      | false =>
        by_cases h3 : 300 < val.size
        · have d3 : (300 : Int) < (val.size : Int) := by omega
          go_enter Try.func34, Try.ntmps34
          go_wp2_with fail
          refine (HF.out _).mono ?_
          rintro e w1 ⟨rfl, rfl⟩
          go_wp2_with fail
          refine (HD.out _).mono ?_
          rintro e w1 ⟨rfl, rfl⟩
          go_wp2_with fail
          go_ret
          exact ⟨by simp [h3, erV], _, rfl⟩
        have d3 : decide ((300 : Int) < (val.size : Int)) = false := decide_eq_false (by omega)
        go_enter Try.func34, Try.ntmps34
        go_wp2_with fail
        refine (HF.out _).mono ?_
        rintro e w1 ⟨rfl, rfl⟩
        go_wp2_with fail
        refine (HD.out _).mono ?_
        rintro e w1 ⟨rfl, rfl⟩
        go_wp2_with fail
        refine (HF.out _).mono ?_
        rintro e w1 ⟨rfl, rfl⟩
        go_wp2_with fail
        go_ret
        exact ⟨by simp [h3, erV], _, rfl⟩
      | true =>
        cases he : val.toList.isEmpty with
        | true =>
          have hv : val.size = 0 := by
            have h0 : val.data = #[] := by simpa [ByteArray.toList_eq] using he
            show val.data.size = 0
            rw [h0]; rfl
          have he' : (!val.toList.isEmpty) = false := by rw [he]; rfl
          have d3 : decide ((300 : Int) < (val.size : Int)) = false := decide_eq_false (by omega)
          have d2 : decide ((20 : Int) < (val.size : Int)) = false := decide_eq_false (by omega)
          clear he
          go_enter Try.func34, Try.ntmps34
          go_wp2_with fail
          refine (HF.out _).mono ?_
          rintro e w1 ⟨rfl, rfl⟩
          go_wp2_with fail
          refine (HD.out _).mono ?_
          rintro e w1 ⟨rfl, rfl⟩
          go_wp2_with fail
          refine (HF.out _).mono ?_
          rintro e w1 ⟨rfl, rfl⟩
          go_wp2_with fail
          go_ret
          exact ⟨by simp [erV, *], _, rfl⟩
        | false =>
          have he' : (!val.toList.isEmpty) = true := by rw [he]; rfl
          clear he
          go_enter Try.func34, Try.ntmps34
          go_wp2_with fail
          refine (HF.out _).mono ?_
          rintro e w1 ⟨rfl, rfl⟩
          go_wp2_with fail
          refine (HD.out _).mono ?_
          rintro e w1 ⟨rfl, rfl⟩
          go_wp2_with fail
          go_ret
          exact ⟨by simp [erV, *], _, rfl⟩
    | false =>
      go_enter Try.func34, Try.ntmps34
      go_wp2_with fail
      refine (HF.out _).mono ?_
      rintro e w1 ⟨rfl, rfl⟩
      go_wp2_with fail
      refine (HD.out _).mono ?_
      rintro e w1 ⟨rfl, rfl⟩
      go_wp2_with fail
      go_ret
      exact ⟨by simp [erV, *], _, rfl⟩
end Go.Proofs.Ytgkenknplepmeaa
