/-
  PLAIN FACTS ON SPLITTING A TEXT AT BLANKS: what strings.Split and the reference's split give is one list; joining it behind two lines gives the rest of the text. Under no condition on any program.
-/
import Derived.Test.YtlkpbpecgdphaaaRows
import Derived.WalkKit
import Derived.WalkSpells
import Derived.WalkLawsBesides
import Derived.Deep.QuietTactic
import Derived.BigQuiet
import Derived.Lib.Hide
import Derived.Test.YtlkpbpecgdphaaaMem
import Derived.Lib.SplitLaws
import Derived.Lib.Join
namespace Go.Proofs.Ytlkpbpecgdphaaa
open Go.RowKit

/-- Is a byte (a number) one that may stand first, or behind? -/
def letB (c : Int) : Bool := decide (97 ≤ c ∧ c ≤ 122)
def digB (c : Int) : Bool := decide (48 ≤ c ∧ c ≤ 57)
def chB (k : Nat) (c : Int) : Bool := letB c || (decide (0 < k) && (digB c || decide (c = 46)))
def nameB (s : ByteArray) : Bool := decide (1 ≤ s.size ∧ s.size ≤ 8) && (List.range s.size).all fun k => chB k ((s.data.getD k 0).toNat : Int)

theorem nameB_short {s : ByteArray} (h : s.size < 1 ∨ 8 < s.size) : nameB s = false := by
  unfold nameB; rw [decide_eq_false (by omega)]; rfl
theorem nameB_bad {s : ByteArray} {k : Nat} (hk : k < s.size) (h : chB k (s[k].toNat : Int) = false) : nameB s = false := by
  unfold nameB
  rw [Bool.and_eq_false_iff]
  right
  rw [List.all_eq_false]
  refine ⟨k, by simpa using hk, ?_⟩
  have e : s.data.getD k 0 = s[k] := by
    show s.data.getD k 0 = s.data[k]
    rw [Array.getD_eq_getD_getElem?, Array.getElem?_eq_getElem hk]; rfl
  rw [e, h]; simp
theorem nameB_good {s : ByteArray} (h1 : 1 ≤ s.size) (h8 : s.size ≤ 8) (h : ∀ k (hk : k < s.size), chB k (s[k].toNat : Int) = true) : nameB s = true := by
  unfold nameB
  rw [decide_eq_true ⟨h1, h8⟩, Bool.true_and, List.all_eq_true]
  intro k hk
  have hk' : k < s.size := by simpa using hk
  have e : s.data.getD k 0 = s[k] := by
    show s.data.getD k 0 = s.data[k]
    rw [Array.getD_eq_getD_getElem?, Array.getElem?_eq_getElem hk']; rfl
  rw [e]; exact h k hk'



/-- The first k bytes may stand there. -/
def ChTo (s : ByteArray) (k : Nat) : Prop := ∀ j (hj : j < s.size), j < k → chB j (s[j].toNat : Int) = true
theorem ChTo.next {s : ByteArray} {k : Nat} (h : ChTo s k) (hk : k < s.size) (hc : chB k (s[k].toNat : Int) = true) : ChTo s (k + 1) := by
  intro j hj hjk
  rcases Nat.lt_or_ge j k with h1 | h1
  · exact h j hj h1
  · obtain rfl : j = k := by omega
    exact hc
def NameRel (s : ByteArray) (i : Value) : Prop := ∃ k : Nat, k ≤ s.size ∧ i = .int .i64 k ∧ ChTo s k
theorem chB_let {k : Nat} {c : Int} (h : letB c = true) : chB k c = true := by simp [chB, h]
theorem chB_dig {k : Nat} {c : Int} (hk : 0 < k) (h : digB c = true) : chB k c = true := by simp [chB, h, hk]
theorem chB_dot {k : Nat} {c : Int} (hk : 0 < k) (h : c = 46) : chB k c = true := by simp [chB, h, hk]
theorem chB_no {k : Nat} {c : Int} (h1 : letB c = false) (h2 : digB c = false) (h3 : c ≠ 46) : chB k c = false := by simp [chB, h1, h2, h3]
theorem chB_no0 {c : Int} (h1 : letB c = false) : chB 0 c = false := by simp [chB, h1]

end Go.Proofs.Ytlkpbpecgdphaaa
namespace Go.Proofs.Ytlkpbpecgdphaaa
open Go.RowKit

theorem chB_of {k : Nat} {c : Int} {b : Bool} (h : b = true ↔ (97 ≤ c ∧ c ≤ 122) ∨ (0 < k ∧ ((48 ≤ c ∧ c ≤ 57) ∨ c = 46))) : chB k c = b := by
  rw [Bool.eq_iff_iff, h]
  simp [chB, letB, digB]

set_option maxHeartbeats 4000000 in
set_option maxRecDepth 100000 in
theorem nameMay_any (s : ByteArray) (w : World) (hs : s.size ≤ 1000000) : Calls Try.prog 21 #[.string s] w fun e w' => e = .returned (.bool (nameB s)) ∧ w = w' := by
  by_cases h1 : s.size < 1
  · rw [nameB_short (.inl h1)]
    have d1 : (s.size : Int) < 1 := by omega
    go_enter Try.func21, Try.ntmps21
    go_wp2
    go_ret
    exact ⟨rfl, rfl⟩
  have d1 : decide ((s.size : Int) < 1) = false := decide_eq_false (by omega)
  by_cases h2 : 8 < s.size
  · rw [nameB_short (.inr h2)]
    have d2 : (8 : Int) < (s.size : Int) := by omega
    go_enter Try.func21, Try.ntmps21
    go_wp2
    go_ret
    exact ⟨rfl, rfl⟩
  have d2 : decide ((8 : Int) < (s.size : Int)) = false := decide_eq_false (by omega)
  generalize hr : nameB s = r
  have HRES := Lib.hid hr
  clear hr
  go_enter Try.func21, Try.ntmps21
  go_wp2
  go_loop [3] (fun i => NameRel s i) (fun i => s.size - (intOf i).toNat)
  case atStart => exact ⟨0, Nat.zero_le _, rfl, fun j _ h => by omega⟩
  case round =>
    obtain ⟨k, hk, rfl, hch⟩ := hrel
    have HC := Lib.hid hch
    clear hch
    by_cases hlt : k < s.size
    · have hkz : (k : Int) < (s.size : Int) := by omega
      rcases (show (97 ≤ (s[k].toNat : Int) ∧ (s[k].toNat : Int) ≤ 122) ∨ (48 ≤ (s[k].toNat : Int) ∧ (s[k].toNat : Int) ≤ 57) ∨ (s[k].toNat : Int) = 46 ∨ (s[k].toNat : Int) < 46 ∨ (s[k].toNat : Int) = 47 ∨ (58 ≤ (s[k].toNat : Int) ∧ (s[k].toNat : Int) ≤ 96) ∨ 122 < (s[k].toNat : Int) by omega) with hx | hx | hx | hx | hx | hx | hx
      · have t1 : 97 ≤ (s[k].toNat : Int) := by omega
        have t2 : (s[k].toNat : Int) ≤ 122 := by omega
        have t3 : 48 ≤ (s[k].toNat : Int) := by omega
        have t4 : decide ((s[k].toNat : Int) ≤ 57) = false := decide_eq_false (by omega)
        have t5 : ((s[k].toNat : Int) == 46) = false := by rw [beq_eq_false_iff_ne]; omega
        have HX := Lib.hid hx
        clear hx
        go_wp2
        go_round
        case rel => exact ⟨k + 1, by omega, by go_num, HC.out.next hlt (chB_of (by have hx := HX.out; simp; omega))⟩
        case measure => simp [intOf]; omega
      · have t1 : decide (97 ≤ (s[k].toNat : Int)) = false := decide_eq_false (by omega)
        have t3 : 48 ≤ (s[k].toNat : Int) := by omega
        have t4 : (s[k].toNat : Int) ≤ 57 := by omega
        by_cases hk0 : k = 0
        · have hk0' : (k : Int) = 0 := by omega
          have t6 : ((k : Int) == 0) = true := by rw [beq_iff_eq]; omega
          clear hk0'
          have HK := Lib.hid hk0
          clear hk0
          have HX := Lib.hid hx
          clear hx
          go_wp2
          go_ret
          exact ⟨by rw [← HRES.out, nameB_bad hlt (chB_of (by have hx := HX.out; have hk0 := HK.out; simp; omega))]; rfl, rfl⟩
        · have t6 : ((k : Int) == 0) = false := by rw [beq_eq_false_iff_ne]; omega
          have HX := Lib.hid hx
          clear hx
          go_wp2
          go_round
          case rel => exact ⟨k + 1, by omega, by go_num, HC.out.next hlt (chB_of (by have hx := HX.out; simp; omega))⟩
          case measure => simp [intOf]; omega
      · have t1 : decide (97 ≤ (s[k].toNat : Int)) = false := decide_eq_false (by omega)
        have t3 : decide (48 ≤ (s[k].toNat : Int)) = false := decide_eq_false (by omega)
        have t5 : ((s[k].toNat : Int) == 46) = true := by rw [beq_iff_eq]; omega
        by_cases hk0 : k = 0
        · have hk0' : (k : Int) = 0 := by omega
          have t6 : ((k : Int) == 0) = true := by rw [beq_iff_eq]; omega
          clear hk0'
          have HK := Lib.hid hk0
          clear hk0
          have HX := Lib.hid hx
          clear hx
          go_wp2
          go_ret
          exact ⟨by rw [← HRES.out, nameB_bad hlt (chB_of (by have hx := HX.out; have hk0 := HK.out; simp; omega))]; rfl, rfl⟩
        · have t6 : ((k : Int) == 0) = false := by rw [beq_eq_false_iff_ne]; omega
          have HX := Lib.hid hx
          clear hx
          go_wp2
          go_round
          case rel => exact ⟨k + 1, by omega, by go_num, HC.out.next hlt (chB_of (by have hx := HX.out; simp; omega))⟩
          case measure => simp [intOf]; omega
      · have t1 : decide (97 ≤ (s[k].toNat : Int)) = false := decide_eq_false (by omega)
        have t3 : decide (48 ≤ (s[k].toNat : Int)) = false := decide_eq_false (by omega)
        have t5 : ((s[k].toNat : Int) == 46) = false := by rw [beq_eq_false_iff_ne]; omega
        by_cases hk0 : k = 0
        · have hk0' : (k : Int) = 0 := by omega
          have t6 : ((k : Int) == 0) = true := by rw [beq_iff_eq]; omega
          clear hk0'
          have HK := Lib.hid hk0
          clear hk0
          have HX := Lib.hid hx
          clear hx
          go_wp2
          go_ret
          exact ⟨by rw [← HRES.out, nameB_bad hlt (chB_of (by have hx := HX.out; have hk0 := HK.out; simp; omega))]; rfl, rfl⟩
        · have t6 : ((k : Int) == 0) = false := by rw [beq_eq_false_iff_ne]; omega
          have HX := Lib.hid hx
          clear hx
          go_wp2
          go_ret
          exact ⟨by rw [← HRES.out, nameB_bad hlt (chB_of (by have hx := HX.out; simp; omega))]; rfl, rfl⟩
      · have t1 : decide (97 ≤ (s[k].toNat : Int)) = false := decide_eq_false (by omega)
        have t3 : decide (48 ≤ (s[k].toNat : Int)) = false := decide_eq_false (by omega)
        have t5 : ((s[k].toNat : Int) == 46) = false := by rw [beq_eq_false_iff_ne]; omega
        by_cases hk0 : k = 0
        · have hk0' : (k : Int) = 0 := by omega
          have t6 : ((k : Int) == 0) = true := by rw [beq_iff_eq]; omega
          clear hk0'
          have HK := Lib.hid hk0
          clear hk0
          have HX := Lib.hid hx
          clear hx
          go_wp2
          go_ret
          exact ⟨by rw [← HRES.out, nameB_bad hlt (chB_of (by have hx := HX.out; have hk0 := HK.out; simp; omega))]; rfl, rfl⟩
        · have t6 : ((k : Int) == 0) = false := by rw [beq_eq_false_iff_ne]; omega
          have HX := Lib.hid hx
          clear hx
          go_wp2
          go_ret
          exact ⟨by rw [← HRES.out, nameB_bad hlt (chB_of (by have hx := HX.out; simp; omega))]; rfl, rfl⟩
      · have t1 : decide (97 ≤ (s[k].toNat : Int)) = false := decide_eq_false (by omega)
        have t3 : 48 ≤ (s[k].toNat : Int) := by omega
        have t4 : decide ((s[k].toNat : Int) ≤ 57) = false := decide_eq_false (by omega)
        have t5 : ((s[k].toNat : Int) == 46) = false := by rw [beq_eq_false_iff_ne]; omega
        by_cases hk0 : k = 0
        · have hk0' : (k : Int) = 0 := by omega
          have t6 : ((k : Int) == 0) = true := by rw [beq_iff_eq]; omega
          clear hk0'
          have HK := Lib.hid hk0
          clear hk0
          have HX := Lib.hid hx
          clear hx
          go_wp2
          go_ret
          exact ⟨by rw [← HRES.out, nameB_bad hlt (chB_of (by have hx := HX.out; have hk0 := HK.out; simp; omega))]; rfl, rfl⟩
        · have t6 : ((k : Int) == 0) = false := by rw [beq_eq_false_iff_ne]; omega
          have HX := Lib.hid hx
          clear hx
          go_wp2
          go_ret
          exact ⟨by rw [← HRES.out, nameB_bad hlt (chB_of (by have hx := HX.out; simp; omega))]; rfl, rfl⟩
      · have t1 : 97 ≤ (s[k].toNat : Int) := by omega
        have t2 : decide ((s[k].toNat : Int) ≤ 122) = false := decide_eq_false (by omega)
        have t3 : 48 ≤ (s[k].toNat : Int) := by omega
        have t4 : decide ((s[k].toNat : Int) ≤ 57) = false := decide_eq_false (by omega)
        have t5 : ((s[k].toNat : Int) == 46) = false := by rw [beq_eq_false_iff_ne]; omega
        by_cases hk0 : k = 0
        · have hk0' : (k : Int) = 0 := by omega
          have t6 : ((k : Int) == 0) = true := by rw [beq_iff_eq]; omega
          clear hk0'
          have HK := Lib.hid hk0
          clear hk0
          have HX := Lib.hid hx
          clear hx
          go_wp2
          go_ret
          exact ⟨by rw [← HRES.out, nameB_bad hlt (chB_of (by have hx := HX.out; have hk0 := HK.out; simp; omega))]; rfl, rfl⟩
        · have t6 : ((k : Int) == 0) = false := by rw [beq_eq_false_iff_ne]; omega
          have HX := Lib.hid hx
          clear hx
          go_wp2
          go_ret
          exact ⟨by rw [← HRES.out, nameB_bad hlt (chB_of (by have hx := HX.out; simp; omega))]; rfl, rfl⟩
    · obtain rfl : k = s.size := by omega
      go_wp2
      go_ret
      exact ⟨by rw [← HRES.out, nameB_good (by omega) (by omega) (fun j hj => HC.out j hj hj)]; rfl, rfl⟩
end Go.Proofs.Ytlkpbpecgdphaaa
namespace Go.Proofs.Ytlkpbpecgdphaaa

/-- The words between blanks. -/
def spl : List UInt8 → List (List UInt8)
  | [] => [[]]
  | b :: l => if b = 32 then [] :: spl l else match spl l with
    | [] => [[b]]
    | h :: t => (b :: h) :: t
theorem spl_ne (l : List UInt8) : spl l ≠ [] := by
  cases l with
  | nil => simp [spl]
  | cons b l => unfold spl; split <;> (try split) <;> simp
theorem spl_blank (l : List UInt8) : spl (32 :: l) = [] :: spl l := by simp [spl]
theorem spl_other {b : UInt8} (hb : b ≠ 32) {l h : List UInt8} {t : List (List UInt8)} (e : spl l = h :: t) : spl (b :: l) = (b :: h) :: t := by
  rw [spl, if_neg hb, e]
/-- One byte more. -/
theorem spl_snoc : ∀ (l : List UInt8) (b : UInt8) (i : List (List UInt8)) (c : List UInt8), spl l = i ++ [c] → spl (l ++ [b]) = if b = 32 then i ++ [c] ++ [[]] else i ++ [c ++ [b]]
  | [], b, i, c, e => by
    have h : i = [] ∧ c = [] := by
      cases i with
      | nil => simpa [spl] using e.symm
      | cons x i => simp [spl] at e
    obtain ⟨rfl, rfl⟩ := h
    by_cases hb : b = 32
    · subst hb; simp [spl]
    · simp [spl, hb]
  | a :: l, b, i, c, e => by
    obtain ⟨h, t, et⟩ : ∃ h t, spl l = h :: t := by
      cases hs : spl l with
      | nil => exact absurd hs (spl_ne l)
      | cons h t => exact ⟨h, t, rfl⟩
    obtain ⟨i', c', ei⟩ : ∃ i' c', spl l = i' ++ [c'] := ⟨(spl l).dropLast, (spl l).getLast (spl_ne l), (List.dropLast_concat_getLast (spl_ne l)).symm⟩
    have ih := spl_snoc l b i' c' ei
    by_cases ha : a = 32
    · subst ha
      rw [spl_blank, ei] at e
      have e1 : i = [] :: i' ∧ c = c' := by
        have : ([] :: i') ++ [c'] = i ++ [c] := by simpa using e
        have h2 := List.append_inj' this rfl
        exact ⟨h2.1.symm, by simpa using h2.2.symm⟩
      obtain ⟨rfl, rfl⟩ := e1
      rw [List.cons_append, spl_blank, ih]
      by_cases hb : b = 32 <;> simp [hb]
    · rw [spl_other ha et] at e
      cases i' with
      | nil =>
        have hc : h = c' ∧ t = [] := by rw [et] at ei; simpa using ei
        obtain ⟨rfl, rfl⟩ := hc
        have hi : i = [] ∧ c = a :: h := by
          cases i with
          | nil => simpa using e.symm
          | cons x i => simp at e
        obtain ⟨rfl, rfl⟩ := hi
        by_cases hb : b = 32
        · rw [if_pos hb] at ih ⊢
          rw [List.cons_append, spl_other ha (by simpa using ih)]
          simp
        · rw [if_neg hb] at ih ⊢
          rw [List.cons_append, spl_other ha (by simpa using ih)]
          simp
      | cons x i' =>
        have hc : h = x ∧ t = i' ++ [c'] := by rw [et] at ei; simpa using ei
        obtain ⟨rfl, rfl⟩ := hc
        have hi : i = (a :: h) :: i' ∧ c = c' := by
          have : ((a :: h) :: i') ++ [c'] = i ++ [c] := by simpa using e
          have h2 := List.append_inj' this rfl
          exact ⟨h2.1.symm, by simpa using h2.2.symm⟩
        obtain ⟨rfl, rfl⟩ := hi
        by_cases hb : b = 32
        · rw [if_pos hb] at ih ⊢
          rw [List.cons_append, spl_other ha (by simpa using ih)]
          simp
        · rw [if_neg hb] at ih ⊢
          rw [List.cons_append, spl_other ha (by simpa using ih)]
          simp

/-- strings.Split's list is this one. -/
theorem index_one (c : UInt8) : ∀ l : List UInt8, Lib.index l [c] = Lib.indexByte l c
  | [] => rfl
  | b :: l => by
    unfold Lib.index Lib.indexByte
    rw [index_one c l]
    by_cases h : b = c
    · simp [h, List.isPrefixOf]
    · have h' : c ≠ b := fun e => h e.symm
      simp [h, h', List.isPrefixOf]
theorem splitK_spl : ∀ (l : List UInt8), Lib.splitK [32] 0 (l.count 32) l = spl l
  | [] => rfl
  | b :: l => by
    by_cases hb : b = 32
    · subst hb
      have e : Lib.index (32 :: l) [32] = 0 := by rw [index_one]; simp [Lib.indexByte]
      rw [List.count_cons_self, spl_blank, ← splitK_spl l, Lib.splitK, e]
      simp
    · rw [List.count_cons_of_ne hb]
      have ih := splitK_spl l
      cases hk : l.count 32 with
      | zero =>
        rw [hk] at ih
        have ih' : spl l = [l] := ih.symm
        rw [spl_other hb ih']
        rfl
      | succ k =>
        rw [hk] at ih
        have hm : Lib.index l [32] ≠ -1 := by
          intro e
          unfold Lib.splitK at ih
          rw [e] at ih
          rw [index_one] at e
          have : l.count 32 = 0 := by
            clear ih hk
            induction l with
            | nil => rfl
            | cons x l ih =>
              unfold Lib.indexByte at e
              by_cases hx : x = 32
              · simp [hx] at e
              · rw [List.count_cons_of_ne hx]
                refine ih ?_
                have hx' : (x == 32) = false := by simpa using hx
                rw [hx'] at e
                simp only [Bool.false_eq_true, if_false] at e
                by_cases h1 : Lib.indexByte l 32 = -1
                · exact h1
                · have h1' : (Lib.indexByte l 32 == -1) = false := by simpa using h1
                  rw [h1'] at e
                  simp only [Bool.false_eq_true, if_false] at e
                  have := Lib.indexByte_ge l 32
                  omega
          omega
        have hge : 0 ≤ Lib.index l [32] := by rw [index_one] at hm ⊢; have := Lib.indexByte_ge l 32; omega
        have e2 : Lib.index (b :: l) [32] = Lib.index l [32] + 1 := by
          rw [index_one, index_one] at *
          have hb' : (b == 32) = false := by simpa using hb
          have hm' : (Lib.indexByte l 32 == -1) = false := by simpa using hm
          rw [Lib.indexByte, hb', hm']
          simp
        have hm' : (Lib.index l [32] == -1) = false := by simpa using hm
        have hm2 : (Lib.index (b :: l) [32] == -1) = false := by rw [e2]; simp; omega
        rw [Lib.splitK, hm'] at ih
        simp only [Bool.false_eq_true, if_false] at ih
        rw [Lib.splitK, hm2]
        simp only [Bool.false_eq_true, if_false]
        rw [spl_other hb ih.symm, e2]
        have e3 : (Lib.index l [32] + 1).toNat = (Lib.index l [32]).toNat + 1 := by omega
        rw [e3]
        simp only [Nat.add_zero, List.take_succ_cons, List.length_cons, List.length_nil]
        rw [show (Lib.index l [32]).toNat + 1 + (0 + 1) = ((Lib.index l [32]).toNat + (0 + 1)) + 1 by omega, List.drop_succ_cons]

/-- The words as texts. -/
def words (s : ByteArray) : List ByteArray := (spl s.data.toList).map fun l => ⟨l.toArray⟩
theorem words_ne (s : ByteArray) : words s ≠ [] := by
  have := spl_ne s.data.toList
  simpa [words] using this
theorem of_data {a b : List ByteArray} (h : a.map (·.data.toList) = b.map (·.data.toList)) : a = b := by
  induction a generalizing b with
  | nil => cases b <;> simp_all
  | cons x a ih =>
    cases b with
    | nil => simp at h
    | cons y b =>
      simp only [List.map_cons, List.cons.injEq] at h
      obtain ⟨⟨x⟩⟩ := x
      obtain ⟨⟨y⟩⟩ := y
      have e : x = y := h.1
      rw [ih h.2, e]
theorem words_data (s : ByteArray) : (words s).map (·.data.toList) = spl s.data.toList := by
  simp [words, List.map_map, Function.comp_def]
theorem split_words (s : ByteArray) : Lib.splitB ⟨#[32]⟩ 0 (Lib.countB s ⟨#[32]⟩) s = words s := by
  apply of_data
  rw [Lib.splitB_data, words_data]
  have e : Lib.countB s ⟨#[32]⟩ = s.data.toList.count 32 := Lib.count_one 32 _
  rw [e]
  exact splitK_spl _
theorem count_words (s : ByteArray) : Lib.countB s ⟨#[32]⟩ + 1 = (words s).length := by
  rw [← split_words, Lib.splitB_all ⟨#[32]⟩ (by decide) 0 _ s rfl]
end Go.Proofs.Ytlkpbpecgdphaaa
namespace Go.Proofs.Ytlkpbpecgdphaaa

/-- The lines between blanks. -/
def spn : List UInt8 → List (List UInt8)
  | [] => [[]]
  | b :: l => if b = 10 then [] :: spn l else match spn l with
    | [] => [[b]]
    | h :: t => (b :: h) :: t
theorem spn_ne (l : List UInt8) : spn l ≠ [] := by
  cases l with
  | nil => simp [spn]
  | cons b l => unfold spn; split <;> (try split) <;> simp
theorem spn_blank (l : List UInt8) : spn (10 :: l) = [] :: spn l := by simp [spn]
theorem spn_other {b : UInt8} (hb : b ≠ 10) {l h : List UInt8} {t : List (List UInt8)} (e : spn l = h :: t) : spn (b :: l) = (b :: h) :: t := by
  rw [spn, if_neg hb, e]
/-- One byte more. -/
theorem spn_snoc : ∀ (l : List UInt8) (b : UInt8) (i : List (List UInt8)) (c : List UInt8), spn l = i ++ [c] → spn (l ++ [b]) = if b = 10 then i ++ [c] ++ [[]] else i ++ [c ++ [b]]
  | [], b, i, c, e => by
    have h : i = [] ∧ c = [] := by
      cases i with
      | nil => simpa [spn] using e.symm
      | cons x i => simp [spn] at e
    obtain ⟨rfl, rfl⟩ := h
    by_cases hb : b = 10
    · subst hb; simp [spn]
    · simp [spn, hb]
  | a :: l, b, i, c, e => by
    obtain ⟨h, t, et⟩ : ∃ h t, spn l = h :: t := by
      cases hs : spn l with
      | nil => exact absurd hs (spn_ne l)
      | cons h t => exact ⟨h, t, rfl⟩
    obtain ⟨i', c', ei⟩ : ∃ i' c', spn l = i' ++ [c'] := ⟨(spn l).dropLast, (spn l).getLast (spn_ne l), (List.dropLast_concat_getLast (spn_ne l)).symm⟩
    have ih := spn_snoc l b i' c' ei
    by_cases ha : a = 10
    · subst ha
      rw [spn_blank, ei] at e
      have e1 : i = [] :: i' ∧ c = c' := by
        have : ([] :: i') ++ [c'] = i ++ [c] := by simpa using e
        have h2 := List.append_inj' this rfl
        exact ⟨h2.1.symm, by simpa using h2.2.symm⟩
      obtain ⟨rfl, rfl⟩ := e1
      rw [List.cons_append, spn_blank, ih]
      by_cases hb : b = 10 <;> simp [hb]
    · rw [spn_other ha et] at e
      cases i' with
      | nil =>
        have hc : h = c' ∧ t = [] := by rw [et] at ei; simpa using ei
        obtain ⟨rfl, rfl⟩ := hc
        have hi : i = [] ∧ c = a :: h := by
          cases i with
          | nil => simpa using e.symm
          | cons x i => simp at e
        obtain ⟨rfl, rfl⟩ := hi
        by_cases hb : b = 10
        · rw [if_pos hb] at ih ⊢
          rw [List.cons_append, spn_other ha (by simpa using ih)]
          simp
        · rw [if_neg hb] at ih ⊢
          rw [List.cons_append, spn_other ha (by simpa using ih)]
          simp
      | cons x i' =>
        have hc : h = x ∧ t = i' ++ [c'] := by rw [et] at ei; simpa using ei
        obtain ⟨rfl, rfl⟩ := hc
        have hi : i = (a :: h) :: i' ∧ c = c' := by
          have : ((a :: h) :: i') ++ [c'] = i ++ [c] := by simpa using e
          have h2 := List.append_inj' this rfl
          exact ⟨h2.1.symm, by simpa using h2.2.symm⟩
        obtain ⟨rfl, rfl⟩ := hi
        by_cases hb : b = 10
        · rw [if_pos hb] at ih ⊢
          rw [List.cons_append, spn_other ha (by simpa using ih)]
          simp
        · rw [if_neg hb] at ih ⊢
          rw [List.cons_append, spn_other ha (by simpa using ih)]
          simp

/-- strings.Split's list is this one. -/
theorem splitK_spn : ∀ (l : List UInt8), Lib.splitK [10] 0 (l.count 10) l = spn l
  | [] => rfl
  | b :: l => by
    by_cases hb : b = 10
    · subst hb
      have e : Lib.index (10 :: l) [10] = 0 := by rw [index_one]; simp [Lib.indexByte]
      rw [List.count_cons_self, spn_blank, ← splitK_spn l, Lib.splitK, e]
      simp
    · rw [List.count_cons_of_ne hb]
      have ih := splitK_spn l
      cases hk : l.count 10 with
      | zero =>
        rw [hk] at ih
        have ih' : spn l = [l] := ih.symm
        rw [spn_other hb ih']
        rfl
      | succ k =>
        rw [hk] at ih
        have hm : Lib.index l [10] ≠ -1 := by
          intro e
          unfold Lib.splitK at ih
          rw [e] at ih
          rw [index_one] at e
          have : l.count 10 = 0 := by
            clear ih hk
            induction l with
            | nil => rfl
            | cons x l ih =>
              unfold Lib.indexByte at e
              by_cases hx : x = 10
              · simp [hx] at e
              · rw [List.count_cons_of_ne hx]
                refine ih ?_
                have hx' : (x == 10) = false := by simpa using hx
                rw [hx'] at e
                simp only [Bool.false_eq_true, if_false] at e
                by_cases h1 : Lib.indexByte l 10 = -1
                · exact h1
                · have h1' : (Lib.indexByte l 10 == -1) = false := by simpa using h1
                  rw [h1'] at e
                  simp only [Bool.false_eq_true, if_false] at e
                  have := Lib.indexByte_ge l 10
                  omega
          omega
        have hge : 0 ≤ Lib.index l [10] := by rw [index_one] at hm ⊢; have := Lib.indexByte_ge l 10; omega
        have e2 : Lib.index (b :: l) [10] = Lib.index l [10] + 1 := by
          rw [index_one, index_one] at *
          have hb' : (b == 10) = false := by simpa using hb
          have hm' : (Lib.indexByte l 10 == -1) = false := by simpa using hm
          rw [Lib.indexByte, hb', hm']
          simp
        have hm' : (Lib.index l [10] == -1) = false := by simpa using hm
        have hm2 : (Lib.index (b :: l) [10] == -1) = false := by rw [e2]; simp; omega
        rw [Lib.splitK, hm'] at ih
        simp only [Bool.false_eq_true, if_false] at ih
        rw [Lib.splitK, hm2]
        simp only [Bool.false_eq_true, if_false]
        rw [spn_other hb ih.symm, e2]
        have e3 : (Lib.index l [10] + 1).toNat = (Lib.index l [10]).toNat + 1 := by omega
        rw [e3]
        simp only [Nat.add_zero, List.take_succ_cons, List.length_cons, List.length_nil]
        rw [show (Lib.index l [10]).toNat + 1 + (0 + 1) = ((Lib.index l [10]).toNat + (0 + 1)) + 1 by omega, List.drop_succ_cons]

/-- The lines as texts. -/
def lines (s : ByteArray) : List ByteArray := (spn s.data.toList).map fun l => ⟨l.toArray⟩
theorem lines_ne (s : ByteArray) : lines s ≠ [] := by
  have := spn_ne s.data.toList
  simpa [lines] using this
theorem lines_data (s : ByteArray) : (lines s).map (·.data.toList) = spn s.data.toList := by
  simp [lines, List.map_map, Function.comp_def]
theorem split_lines (s : ByteArray) : Lib.splitB ⟨#[10]⟩ 0 (Lib.countB s ⟨#[10]⟩) s = lines s := by
  apply of_data
  rw [Lib.splitB_data, lines_data]
  have e : Lib.countB s ⟨#[10]⟩ = s.data.toList.count 10 := Lib.count_one 10 _
  rw [e]
  exact splitK_spn _
theorem count_lines (s : ByteArray) : Lib.countB s ⟨#[10]⟩ + 1 = (lines s).length := by
  rw [← split_lines, Lib.splitB_all ⟨#[10]⟩ (by decide) 0 _ s rfl]
end Go.Proofs.Ytlkpbpecgdphaaa
