/-
  WALKS: files.Check, hammerpondref.FileFault, hammerpondref.Get, Put and Drop: what each gives, for lists of at most 900000 files (Put and Drop: sorted ones).
-/
import Derived.Test.YtmadegpbinnnfaaName
import Derived.Test.YtmadegpbinnnfaaSame
import Derived.Test.YtmadegpbinnnfaaPut
namespace Go.Proofs.Ytmadegpbinnnfaa
open Go.RowKit

/-- An error by its number: nil for 0. -/
def errV (k : Int) : Value := if k = 0 then .nilIface else .iface 62 (.int .i64 k)
theorem same_errV (k : Int) (hk : 0 ≤ k) (w : World) : Calls Try.prog 12 #[errV k, .int .i64 k] w fun e w' => e = .returned (.bool true) ∧ w = w' := by
  unfold errV
  by_cases h : k = 0
  · rw [if_pos h, h]; exact same_nil w
  · rw [if_neg h]; exact same_err k (by omega) w
def faultN (x t : ByteArray) : Int := if nameB x = true then (if 20 < t.size then 2 else 0) else 3
theorem faultN_nn (x t : ByteArray) : 0 ≤ faultN x t := by unfold faultN; split <;> (try split) <;> omega

set_option maxHeartbeats 400000 in
theorem check_any (x t : ByteArray) (w : World) (hx : x.size ≤ 1000000) : Calls Try.prog 13 #[.agg #[.string x, .string t]] w fun e w' => e = .returned (errV (faultN x t)) ∧ Below w.heap.size w w' := by
  have hb : Below w.heap.size w (w.alloc (.cells #[.string x, .string t] 24)) := (Below.refl _ _).alloc (Nat.le_refl _) _
  cases hn : nameB x with
  | false =>
    have e3 : errV (faultN x t) = .iface 62 (.int .i64 3) := by simp [faultN, hn, errV]
    rw [e3]
    have HN := Lib.hid hn
    clear hn e3
    go_enter Try.func13, Try.ntmps13
    go_wp2_with fail
    refine (name_any _ _ hx).mono ?_
    rintro e w1 ⟨rfl, rfl⟩
    rw [HN.out]
    go_wp2
    go_ret
    exact ⟨rfl, hb⟩
  | true =>
    have HN := Lib.hid hn
    by_cases ht : 20 < t.size
    · have e3 : errV (faultN x t) = .iface 62 (.int .i64 2) := by simp [faultN, hn, errV, ht]
      rw [e3]
      have t1 : (20 : Int) < (t.size : Int) := by omega
      clear hn e3
      go_enter Try.func13, Try.ntmps13
      go_wp2_with fail
      refine (name_any _ _ hx).mono ?_
      rintro e w1 ⟨rfl, rfl⟩
      rw [HN.out]
      go_wp2
      go_ret
      exact ⟨rfl, hb⟩
    · have e3 : errV (faultN x t) = .nilIface := by simp [faultN, hn, errV, ht]
      rw [e3]
      have t1 : decide ((20 : Int) < (t.size : Int)) = false := decide_eq_false (by omega)
      clear hn e3
      go_enter Try.func13, Try.ntmps13
      go_wp2_with fail
      refine (name_any _ _ hx).mono ?_
      rintro e w1 ⟨rfl, rfl⟩
      rw [HN.out]
      go_wp2
      go_ret
      exact ⟨rfl, hb⟩

set_option maxHeartbeats 400000 in
theorem fault_any (x t : ByteArray) (w : World) (hx : x.size ≤ 1000000) : Calls Try.prog 14 #[.agg #[.string x, .string t]] w fun e w' => e = .returned (.int .i64 (faultN x t)) ∧ Below w.heap.size w w' := by
  have hb : Below w.heap.size w (w.alloc (.cells #[.string x, .string t] 24)) := (Below.refl _ _).alloc (Nat.le_refl _) _
  cases hn : nameB x with
  | false =>
    have e3 : faultN x t = 3 := by simp [faultN, hn]
    rw [e3]
    have HN := Lib.hid hn
    clear hn e3
    go_enter Try.func14, Try.ntmps14
    go_wp2_with fail
    refine (nameMay_any _ _ hx).mono ?_
    rintro e w1 ⟨rfl, rfl⟩
    rw [HN.out]
    go_wp2
    go_ret
    exact ⟨rfl, hb⟩
  | true =>
    have HN := Lib.hid hn
    by_cases ht : 20 < t.size
    · have e3 : faultN x t = 2 := by simp [faultN, hn, ht]
      rw [e3]
      have t1 : (20 : Int) < (t.size : Int) := by omega
      clear hn e3
      go_enter Try.func14, Try.ntmps14
      go_wp2_with fail
      refine (nameMay_any _ _ hx).mono ?_
      rintro e w1 ⟨rfl, rfl⟩
      rw [HN.out]
      go_wp2
      go_ret
      exact ⟨rfl, hb⟩
    · have e3 : faultN x t = 0 := by simp [faultN, hn, ht]
      rw [e3]
      have t1 : decide ((20 : Int) < (t.size : Int)) = false := decide_eq_false (by omega)
      clear hn e3
      go_enter Try.func14, Try.ntmps14
      go_wp2_with fail
      refine (nameMay_any _ _ hx).mono ?_
      rintro e w1 ⟨rfl, rfl⟩
      rw [HN.out]
      go_wp2
      go_ret
      exact ⟨rfl, hb⟩

/-! hammerpondref.Get: the first file of a name. -/
theorem first_text {l : List F} {x : ByteArray} {k : Nat} {f : F} (hk : l[k]? = some f) (hf : f.1 = x) (hno : ∀ j g, j < k → l[j]? = some g → g.1 ≠ x) : textF l x = f.2 ∧ has l x = true := by
  refine ⟨?_, has_iff.2 ⟨f, List.mem_of_getElem? hk, hf⟩⟩
  unfold textF
  have : l.find? (fun g => g.1 == x) = some f := by
    obtain ⟨h1, h2⟩ := List.getElem?_eq_some_iff.1 hk
    rw [List.find?_eq_some_iff_getElem]
    refine ⟨by simpa using hf, k, h1, h2, fun j hj => ?_⟩
    have := hno j l[j] hj (List.getElem?_eq_getElem (by omega))
    simpa using this
  rw [this]; rfl
def NoneTo (l : List F) (x : ByteArray) (k : Nat) : Prop := ∀ j g, j < k → l[j]? = some g → g.1 ≠ x
def GetRel (l : List F) (x : ByteArray) (i : Value) : Prop := ∃ k : Nat, k ≤ l.length ∧ i = .int .i64 k ∧ NoneTo l x k

set_option maxHeartbeats 1000000 in
theorem refGet_any (A : Option Addr) (n c : Nat) (l : List F) (x : ByteArray) (w : World) (h : RdF w w.heap.size A n c l) (hn : n ≤ 1000000) :
    Calls Try.prog 9 #[.slice A n c, .string x] w fun e w' => e = .returned (.tuple #[.string (textF l x), .bool (has l x)]) ∧ w = w' := by
  have HR := Lib.hid h
  have HL := Lib.hid h.1
  clear h
  generalize ht : textF l x = t
  generalize hh : has l x = b
  have HT := Lib.hid ht
  have HH := Lib.hid hh
  clear ht hh
  go_enter Try.func9, Try.ntmps9
  go_wp2
  go_loop [6] (fun i => GetRel l x i) (fun i => n - (intOf i).toNat)
  case atStart => exact ⟨0, Nat.zero_le _, rfl, fun j g h => by omega⟩
  case round =>
    obtain ⟨k, hk, rfl, hno⟩ := hrel
    have hkn : k ≤ n := by rw [← HL.out]; exact hk
    clear hk
    have HN := Lib.hid hno
    clear hno
    by_cases hlt : k < n
    · obtain ⟨f, hf⟩ : ∃ f, l[k]? = some f := ⟨_, List.getElem?_eq_getElem (by rw [HL.out]; exact hlt)⟩
      obtain ⟨b', off, rfl, _, hc1, hc2⟩ := HR.out.at_ hf
      have hkz : (k : Int) < (n : Int) := by omega
      have HF := Lib.hid hf
      clear hf
      obtain ⟨fx, ft⟩ := f
      cases hq : (fx.toList == x.toList) with
      | true =>
        have hres := first_text HF.out (toList_inj (by simpa using hq)) HN.out
        rw [HT.out, HH.out] at hres
        have HX := Lib.hid hres
        clear hres
        go_wp2
        go_ret2
        exact ⟨by rw [HX.out.1, HX.out.2]; rfl, rfl⟩
      | false =>
        go_wp2
        go_round
        case rel =>
          refine ⟨k + 1, by rw [HL.out]; omega, by go_num, fun j g hj hg => ?_⟩
          rcases Nat.lt_or_ge j k with h1 | h1
          · exact HN.out j g h1 hg
          · obtain rfl : j = k := by omega
            have e1 := HF.out
            rw [e1] at hg
            injection hg with hg
            subst hg
            rintro rfl
            simp at hq
        case measure => simp [intOf]; omega
    · obtain rfl : k = n := by omega
      have hno : has l x = false := by
        cases e : has l x with
        | false => rfl
        | true =>
          obtain ⟨f, hf, e2⟩ := has_iff.1 e
          obtain ⟨j, hj, e3⟩ := List.mem_iff_getElem.1 hf
          exact absurd e2 (by rw [← e3]; exact HN.out j l[j] (by rw [← HL.out]; exact hj) (List.getElem?_eq_getElem hj))
      have ht := textF_none hno
      rw [HH.out] at hno
      rw [HT.out] at ht
      have H1 := Lib.hid hno
      have H2 := Lib.hid ht
      clear hno ht
      go_wp2
      go_ret2
      exact ⟨by rw [H1.out, H2.out]; rfl, rfl⟩
end Go.Proofs.Ytmadegpbinnnfaa
