/-
  WALKS: hammerpondref.NameMay: what it gives, for every name.
-/
import Derived.Test.YtpghfefiifhbiaaGreatDoorNameA
namespace Go.Proofs.YtpghfefiifhbiaaGreatDoor
open Go.RowKit

theorem chB_of {k : Nat} {c : Int} {b : Bool} (h : b = true ↔ (97 ≤ c ∧ c ≤ 122) ∨ (0 < k ∧ ((48 ≤ c ∧ c ≤ 57) ∨ c = 46))) : chB k c = b := by
  rw [Bool.eq_iff_iff, h]
  simp [chB, letB, digB]

set_option maxHeartbeats 4000000 in
set_option maxRecDepth 100000 in
theorem nameMay_any (s : ByteArray) (w : World) (hs : s.size ≤ 1000000) : Calls Tryz.prog 38 #[.string s] w fun e w' => e = .returned (.bool (nameB s)) ∧ w = w' := by
  by_cases h1 : s.size < 1
  · rw [nameB_short (.inl h1)]
    have d1 : (s.size : Int) < 1 := by omega
    go_enter Tryz.func38, Tryz.ntmps38
    go_wp2
    go_ret
    exact ⟨rfl, rfl⟩
  have d1 : decide ((s.size : Int) < 1) = false := decide_eq_false (by omega)
  by_cases h2 : 8 < s.size
  · rw [nameB_short (.inr h2)]
    have d2 : (8 : Int) < (s.size : Int) := by omega
    go_enter Tryz.func38, Tryz.ntmps38
    go_wp2
    go_ret
    exact ⟨rfl, rfl⟩
  have d2 : decide ((8 : Int) < (s.size : Int)) = false := decide_eq_false (by omega)
  generalize hr : nameB s = r
  have HRES := Lib.hid hr
  clear hr
  go_enter Tryz.func38, Tryz.ntmps38
  go_wp2
  go_loop [3] (fun i => NameRel s i) (fun i => s.size - (intOf i).toNat)
  case atStart => exact ⟨0, Nat.zero_le _, rfl, fun j _ h => by omega⟩
  case round =>
    obtain ⟨k, hk, rfl, hch⟩ := hrel
    have HC := Lib.hid hch
    clear hch
    by_cases hlt : k < s.size
    · have hkz : (k : Int) < (s.size : Int) := by omega
      rcases (show (97 ≤ (s[k].toNat : Int) ∧ (s[k].toNat : Int) ≤ 122) ∨ (48 ≤ (s[k].toNat : Int) ∧ (s[k].toNat : Int) ≤ 57) ∨ (s[k].toNat : Int) = 46 ∨ (s[k].toNat : Int) < 46 ∨ (s[k].toNat : Int) = 47 ∨ (58 ≤ (s[k].toNat : Int) ∧ (s[k].toNat : Int) ≤ 96) ∨ 122 < (s[k].toNat : Int) by omega) with hx | hx | hx | hx | hx | hx | hx
      · have t1 : 97 ≤ (s[k].toNat : Int) := by omega
        have t2 : (s[k].toNat : Int) ≤ 122 := by omega
        have t3 : 48 ≤ (s[k].toNat : Int) := by omega
        have t4 : decide ((s[k].toNat : Int) ≤ 57) = false := decide_eq_false (by omega)
        have t5 : ((s[k].toNat : Int) == 46) = false := by rw [beq_eq_false_iff_ne]; omega
        have HX := Lib.hid hx
        clear hx
        go_wp2
        go_round
        case rel => exact ⟨k + 1, by omega, by go_num, HC.out.next hlt (chB_of (by have hx := HX.out; simp; omega))⟩
        case measure => simp [intOf]; omega
      · have t1 : decide (97 ≤ (s[k].toNat : Int)) = false := decide_eq_false (by omega)
        have t3 : 48 ≤ (s[k].toNat : Int) := by omega
        have t4 : (s[k].toNat : Int) ≤ 57 := by omega
        by_cases hk0 : k = 0
        · have hk0' : (k : Int) = 0 := by omega
          have t6 : ((k : Int) == 0) = true := by rw [beq_iff_eq]; omega
          clear hk0'
          have HK := Lib.hid hk0
          clear hk0
          have HX := Lib.hid hx
          clear hx
          go_wp2
          go_ret
          exact ⟨by rw [← HRES.out, nameB_bad hlt (chB_of (by have hx := HX.out; have hk0 := HK.out; simp; omega))]; rfl, rfl⟩
        · have t6 : ((k : Int) == 0) = false := by rw [beq_eq_false_iff_ne]; omega
          have HX := Lib.hid hx
          clear hx
          go_wp2
          go_round
          case rel => exact ⟨k + 1, by omega, by go_num, HC.out.next hlt (chB_of (by have hx := HX.out; simp; omega))⟩
          case measure => simp [intOf]; omega
      · have t1 : decide (97 ≤ (s[k].toNat : Int)) = false := decide_eq_false (by omega)
        have t3 : decide (48 ≤ (s[k].toNat : Int)) = false := decide_eq_false (by omega)
        have t5 : ((s[k].toNat : Int) == 46) = true := by rw [beq_iff_eq]; omega
        by_cases hk0 : k = 0
        · have hk0' : (k : Int) = 0 := by omega
          have t6 : ((k : Int) == 0) = true := by rw [beq_iff_eq]; omega
          clear hk0'
          have HK := Lib.hid hk0
          clear hk0
          have HX := Lib.hid hx
          clear hx
          go_wp2
          go_ret
          exact ⟨by rw [← HRES.out, nameB_bad hlt (chB_of (by have hx := HX.out; have hk0 := HK.out; simp; omega))]; rfl, rfl⟩
        · have t6 : ((k : Int) == 0) = false := by rw [beq_eq_false_iff_ne]; omega
          have HX := Lib.hid hx
          clear hx
          go_wp2
          go_round
          case rel => exact ⟨k + 1, by omega, by go_num, HC.out.next hlt (chB_of (by have hx := HX.out; simp; omega))⟩
          case measure => simp [intOf]; omega
      · have t1 : decide (97 ≤ (s[k].toNat : Int)) = false := decide_eq_false (by omega)
        have t3 : decide (48 ≤ (s[k].toNat : Int)) = false := decide_eq_false (by omega)
        have t5 : ((s[k].toNat : Int) == 46) = false := by rw [beq_eq_false_iff_ne]; omega
        by_cases hk0 : k = 0
        · have hk0' : (k : Int) = 0 := by omega
          have t6 : ((k : Int) == 0) = true := by rw [beq_iff_eq]; omega
          clear hk0'
          have HK := Lib.hid hk0
          clear hk0
          have HX := Lib.hid hx
          clear hx
          go_wp2
          go_ret
          exact ⟨by rw [← HRES.out, nameB_bad hlt (chB_of (by have hx := HX.out; have hk0 := HK.out; simp; omega))]; rfl, rfl⟩
        · have t6 : ((k : Int) == 0) = false := by rw [beq_eq_false_iff_ne]; omega
          have HX := Lib.hid hx
          clear hx
          go_wp2
          go_ret
          exact ⟨by rw [← HRES.out, nameB_bad hlt (chB_of (by have hx := HX.out; simp; omega))]; rfl, rfl⟩
      · have t1 : decide (97 ≤ (s[k].toNat : Int)) = false := decide_eq_false (by omega)
        have t3 : decide (48 ≤ (s[k].toNat : Int)) = false := decide_eq_false (by omega)
        have t5 : ((s[k].toNat : Int) == 46) = false := by rw [beq_eq_false_iff_ne]; omega
        by_cases hk0 : k = 0
        · have hk0' : (k : Int) = 0 := by omega
          have t6 : ((k : Int) == 0) = true := by rw [beq_iff_eq]; omega
          clear hk0'
          have HK := Lib.hid hk0
          clear hk0
          have HX := Lib.hid hx
          clear hx
          go_wp2
          go_ret
          exact ⟨by rw [← HRES.out, nameB_bad hlt (chB_of (by have hx := HX.out; have hk0 := HK.out; simp; omega))]; rfl, rfl⟩
        · have t6 : ((k : Int) == 0) = false := by rw [beq_eq_false_iff_ne]; omega
          have HX := Lib.hid hx
          clear hx
          go_wp2
          go_ret
          exact ⟨by rw [← HRES.out, nameB_bad hlt (chB_of (by have hx := HX.out; simp; omega))]; rfl, rfl⟩
      · have t1 : decide (97 ≤ (s[k].toNat : Int)) = false := decide_eq_false (by omega)
        have t3 : 48 ≤ (s[k].toNat : Int) := by omega
        have t4 : decide ((s[k].toNat : Int) ≤ 57) = false := decide_eq_false (by omega)
        have t5 : ((s[k].toNat : Int) == 46) = false := by rw [beq_eq_false_iff_ne]; omega
        by_cases hk0 : k = 0
        · have hk0' : (k : Int) = 0 := by omega
          have t6 : ((k : Int) == 0) = true := by rw [beq_iff_eq]; omega
          clear hk0'
          have HK := Lib.hid hk0
          clear hk0
          have HX := Lib.hid hx
          clear hx
          go_wp2
          go_ret
          exact ⟨by rw [← HRES.out, nameB_bad hlt (chB_of (by have hx := HX.out; have hk0 := HK.out; simp; omega))]; rfl, rfl⟩
        · have t6 : ((k : Int) == 0) = false := by rw [beq_eq_false_iff_ne]; omega
          have HX := Lib.hid hx
          clear hx
          go_wp2
          go_ret
          exact ⟨by rw [← HRES.out, nameB_bad hlt (chB_of (by have hx := HX.out; simp; omega))]; rfl, rfl⟩
      · have t1 : 97 ≤ (s[k].toNat : Int) := by omega
        have t2 : decide ((s[k].toNat : Int) ≤ 122) = false := decide_eq_false (by omega)
        have t3 : 48 ≤ (s[k].toNat : Int) := by omega
        have t4 : decide ((s[k].toNat : Int) ≤ 57) = false := decide_eq_false (by omega)
        have t5 : ((s[k].toNat : Int) == 46) = false := by rw [beq_eq_false_iff_ne]; omega
        by_cases hk0 : k = 0
        · have hk0' : (k : Int) = 0 := by omega
          have t6 : ((k : Int) == 0) = true := by rw [beq_iff_eq]; omega
          clear hk0'
          have HK := Lib.hid hk0
          clear hk0
          have HX := Lib.hid hx
          clear hx
          go_wp2
          go_ret
          exact ⟨by rw [← HRES.out, nameB_bad hlt (chB_of (by have hx := HX.out; have hk0 := HK.out; simp; omega))]; rfl, rfl⟩
        · have t6 : ((k : Int) == 0) = false := by rw [beq_eq_false_iff_ne]; omega
          have HX := Lib.hid hx
          clear hx
          go_wp2
          go_ret
          exact ⟨by rw [← HRES.out, nameB_bad hlt (chB_of (by have hx := HX.out; simp; omega))]; rfl, rfl⟩
    · obtain rfl : k = s.size := by omega
      go_wp2
      go_ret
      exact ⟨by rw [← HRES.out, nameB_good (by omega) (by omega) (fun j hj => HC.out j hj hj)]; rfl, rfl⟩
end Go.Proofs.YtpghfefiifhbiaaGreatDoor
