/-
  WALKS: files.letter, files.digit, files.Name: what each gives, for every name.
-/
import Derived.Test.YtpghfefiifhbiaaGreatDoorRows
import Derived.WalkKit
import Derived.WalkSpells
import Derived.WalkLawsBesides
import Derived.Deep.QuietTactic
import Derived.BigQuiet
import Derived.Lib.Hide
namespace Go.Proofs.YtpghfefiifhbiaaGreatDoor
open Go.RowKit

/-- Is a byte (a number) one that may stand first, or behind? -/
def letB (c : Int) : Bool := decide (97 ≤ c ∧ c ≤ 122)
def digB (c : Int) : Bool := decide (48 ≤ c ∧ c ≤ 57)
def chB (k : Nat) (c : Int) : Bool := letB c || (decide (0 < k) && (digB c || decide (c = 46)))
def nameB (s : ByteArray) : Bool := decide (1 ≤ s.size ∧ s.size ≤ 8) && (List.range s.size).all fun k => chB k ((s.data.getD k 0).toNat : Int)

theorem nameB_short {s : ByteArray} (h : s.size < 1 ∨ 8 < s.size) : nameB s = false := by
  unfold nameB; rw [decide_eq_false (by omega)]; rfl
theorem nameB_bad {s : ByteArray} {k : Nat} (hk : k < s.size) (h : chB k (s[k].toNat : Int) = false) : nameB s = false := by
  unfold nameB
  rw [Bool.and_eq_false_iff]
  right
  rw [List.all_eq_false]
  refine ⟨k, by simpa using hk, ?_⟩
  have e : s.data.getD k 0 = s[k] := by
    show s.data.getD k 0 = s.data[k]
    rw [Array.getD_eq_getD_getElem?, Array.getElem?_eq_getElem hk]; rfl
  rw [e, h]; simp
theorem nameB_good {s : ByteArray} (h1 : 1 ≤ s.size) (h8 : s.size ≤ 8) (h : ∀ k (hk : k < s.size), chB k (s[k].toNat : Int) = true) : nameB s = true := by
  unfold nameB
  rw [decide_eq_true ⟨h1, h8⟩, Bool.true_and, List.all_eq_true]
  intro k hk
  have hk' : k < s.size := by simpa using hk
  have e : s.data.getD k 0 = s[k] := by
    show s.data.getD k 0 = s.data[k]
    rw [Array.getD_eq_getD_getElem?, Array.getElem?_eq_getElem hk']; rfl
  rw [e]; exact h k hk'

set_option maxHeartbeats 400000 in
set_option maxRecDepth 100000 in
theorem letter_any (c : Int) (w : World) : Calls Tryz.prog 76 #[.int .u8 c] w fun e w' => e = .returned (.bool (letB c)) ∧ w = w' := by
  unfold letB
  by_cases h1 : 97 ≤ c
  · by_cases h2 : c ≤ 122
    · rw [decide_eq_true ⟨h1, h2⟩]
      go_enter Tryz.func76, Tryz.ntmps76
      go_wp2
      go_ret
      exact ⟨rfl, rfl⟩
    · rw [decide_eq_false (by omega)]
      have d2 : decide (c ≤ 122) = false := decide_eq_false h2
      go_enter Tryz.func76, Tryz.ntmps76
      go_wp2
      go_ret
      exact ⟨rfl, rfl⟩
  · rw [decide_eq_false (by omega)]
    have d1 : decide (97 ≤ c) = false := decide_eq_false h1
    go_enter Tryz.func76, Tryz.ntmps76
    go_wp2
    go_ret
    exact ⟨rfl, rfl⟩

set_option maxHeartbeats 400000 in
set_option maxRecDepth 100000 in
theorem digit_any (c : Int) (w : World) : Calls Tryz.prog 77 #[.int .u8 c] w fun e w' => e = .returned (.bool (digB c)) ∧ w = w' := by
  unfold digB
  by_cases h1 : 48 ≤ c
  · by_cases h2 : c ≤ 57
    · rw [decide_eq_true ⟨h1, h2⟩]
      go_enter Tryz.func77, Tryz.ntmps77
      go_wp2
      go_ret
      exact ⟨rfl, rfl⟩
    · rw [decide_eq_false (by omega)]
      have d2 : decide (c ≤ 57) = false := decide_eq_false h2
      go_enter Tryz.func77, Tryz.ntmps77
      go_wp2
      go_ret
      exact ⟨rfl, rfl⟩
  · rw [decide_eq_false (by omega)]
    have d1 : decide (48 ≤ c) = false := decide_eq_false h1
    go_enter Tryz.func77, Tryz.ntmps77
    go_wp2
    go_ret
    exact ⟨rfl, rfl⟩

/-- The first k bytes may stand there. -/
def ChTo (s : ByteArray) (k : Nat) : Prop := ∀ j (hj : j < s.size), j < k → chB j (s[j].toNat : Int) = true
theorem ChTo.next {s : ByteArray} {k : Nat} (h : ChTo s k) (hk : k < s.size) (hc : chB k (s[k].toNat : Int) = true) : ChTo s (k + 1) := by
  intro j hj hjk
  rcases Nat.lt_or_ge j k with h1 | h1
  · exact h j hj h1
  · obtain rfl : j = k := by omega
    exact hc
def NameRel (s : ByteArray) (i : Value) : Prop := ∃ k : Nat, k ≤ s.size ∧ i = .int .i64 k ∧ ChTo s k
theorem chB_let {k : Nat} {c : Int} (h : letB c = true) : chB k c = true := by simp [chB, h]
theorem chB_dig {k : Nat} {c : Int} (hk : 0 < k) (h : digB c = true) : chB k c = true := by simp [chB, h, hk]
theorem chB_dot {k : Nat} {c : Int} (hk : 0 < k) (h : c = 46) : chB k c = true := by simp [chB, h, hk]
theorem chB_no {k : Nat} {c : Int} (h1 : letB c = false) (h2 : digB c = false) (h3 : c ≠ 46) : chB k c = false := by simp [chB, h1, h2, h3]
theorem chB_no0 {c : Int} (h1 : letB c = false) : chB 0 c = false := by simp [chB, h1]

set_option maxHeartbeats 2000000 in
set_option maxRecDepth 100000 in
theorem name_any (s : ByteArray) (w : World) (hs : s.size ≤ 1000000) : Calls Tryz.prog 64 #[.string s] w fun e w' => e = .returned (.bool (nameB s)) ∧ w = w' := by
  by_cases h1 : s.size < 1
  · rw [nameB_short (.inl h1)]
    have d1 : (s.size : Int) < 1 := by omega
    go_enter Tryz.func64, Tryz.ntmps64
    go_wp2
    go_ret
    exact ⟨rfl, rfl⟩
  have d1 : decide ((s.size : Int) < 1) = false := decide_eq_false (by omega)
  by_cases h2 : 8 < s.size
  · rw [nameB_short (.inr h2)]
    have d2 : (8 : Int) < (s.size : Int) := by omega
    go_enter Tryz.func64, Tryz.ntmps64
    go_wp2
    go_ret
    exact ⟨rfl, rfl⟩
  have d2 : decide ((8 : Int) < (s.size : Int)) = false := decide_eq_false (by omega)
  have h0 : 0 < s.size := by omega
  have d0 : (0 : Int) < (s.size : Int) := by omega
  cases hl : letB (s[0].toNat : Int) with
  | false =>
    rw [nameB_bad h0 (by simp [chB, hl])]
    have HL := Lib.hid hl
    clear hl
    go_enter Tryz.func64, Tryz.ntmps64
    go_wp2_with fail
    refine (letter_any _ _).mono ?_
    rintro e w1 ⟨rfl, rfl⟩
    rw [HL.out]
    go_wp2
    go_ret
    exact ⟨rfl, rfl⟩
  | true =>
    have HL := Lib.hid hl
    clear hl
    generalize hr : nameB s = r
    have HRES := Lib.hid hr
    clear hr
    go_enter Tryz.func64, Tryz.ntmps64
    go_wp2_with fail
    refine (letter_any _ _).mono ?_
    rintro e w1 ⟨rfl, rfl⟩
    rw [HL.out]
    go_wp2
    go_loop [20] (fun i => NameRel s i) (fun i => s.size - (intOf i).toNat)
    case atStart => exact ⟨0, Nat.zero_le _, rfl, fun j _ h => by omega⟩
    case round =>
      obtain ⟨k, hk, rfl, hch⟩ := hrel
      have HC := Lib.hid hch
      clear hch
      by_cases hlt : k < s.size
      · have hkz : (k : Int) < (s.size : Int) := by omega
        have hk0 : letB (s[k].toNat : Int) = false → 0 < k := by
          intro h
          rcases Nat.eq_zero_or_pos k with h0' | h0'
          · subst h0'; have := HL.out; rw [h] at this; cases this
          · exact h0'
        have HK0 := Lib.hid hk0
        clear hk0
        cases hb : letB (s[k].toNat : Int) with
        | true =>
          have HB := Lib.hid hb
          clear hb
          go_wp2_with fail
          refine (letter_any _ _).mono ?_
          rintro e w1 ⟨rfl, rfl⟩
          rw [HB.out]
          go_wp2
          go_round
          case rel => exact ⟨k + 1, by omega, by go_num, HC.out.next hlt (chB_let HB.out)⟩
          case measure => simp [intOf]; omega
        | false =>
          have HB := Lib.hid hb
          clear hb
          cases hd : digB (s[k].toNat : Int) with
          | true =>
            have HD := Lib.hid hd
            clear hd
            go_wp2_with fail
            refine (letter_any _ _).mono ?_
            rintro e w1 ⟨rfl, rfl⟩
            rw [HB.out]
            go_wp2_with fail
            refine (digit_any _ _).mono ?_
            rintro e w1 ⟨rfl, rfl⟩
            rw [HD.out]
            go_wp2
            go_round
            case rel => exact ⟨k + 1, by omega, by go_num, HC.out.next hlt (chB_dig (HK0.out HB.out) HD.out)⟩
            case measure => simp [intOf]; omega
          | false =>
            have HD := Lib.hid hd
            clear hd
            cases h46 : ((s[k].toNat : Int) != 46) with
            | false =>
              go_wp2_with fail
              refine (letter_any _ _).mono ?_
              rintro e w1 ⟨rfl, rfl⟩
              rw [HB.out]
              go_wp2_with fail
              refine (digit_any _ _).mono ?_
              rintro e w1 ⟨rfl, rfl⟩
              rw [HD.out]
              go_wp2
              go_round
              case rel => exact ⟨k + 1, by omega, by go_num, HC.out.next hlt (chB_dot (HK0.out HB.out) (by simpa using h46))⟩
              case measure => simp [intOf]; omega
            | true =>
              go_wp2_with fail
              refine (letter_any _ _).mono ?_
              rintro e w1 ⟨rfl, rfl⟩
              rw [HB.out]
              go_wp2_with fail
              refine (digit_any _ _).mono ?_
              rintro e w1 ⟨rfl, rfl⟩
              rw [HD.out]
              go_wp2
              go_ret
              exact ⟨by rw [← HRES.out, nameB_bad hlt (chB_no HB.out HD.out (by simpa using h46))]; rfl, rfl⟩
      · obtain rfl : k = s.size := by omega
        go_wp2
        go_ret
        exact ⟨by rw [← HRES.out, nameB_good (by omega) (by omega) (fun j hj => HC.out j hj hj)]; rfl, rfl⟩
end Go.Proofs.YtpghfefiifhbiaaGreatDoor
