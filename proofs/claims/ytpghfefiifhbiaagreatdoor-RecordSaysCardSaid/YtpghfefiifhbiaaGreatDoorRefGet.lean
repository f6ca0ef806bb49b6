/-
  WALKS: hammerpondref.Get: what it gives, for lists of at most a million files.
-/
import Derived.Test.YtpghfefiifhbiaaGreatDoorErr
import Derived.Test.YtpghfefiifhbiaaGreatDoorPut
namespace Go.Proofs.YtpghfefiifhbiaaGreatDoor
open Go.RowKit

/-! hammerpondref.Get: the first file of a name. -/
theorem first_text {l : List F} {x : ByteArray} {k : Nat} {f : F} (hk : l[k]? = some f) (hf : f.1 = x) (hno : ∀ j g, j < k → l[j]? = some g → g.1 ≠ x) : textF l x = f.2 ∧ has l x = true := by
  refine ⟨?_, has_iff.2 ⟨f, List.mem_of_getElem? hk, hf⟩⟩
  unfold textF
  have : l.find? (fun g => g.1 == x) = some f := by
    obtain ⟨h1, h2⟩ := List.getElem?_eq_some_iff.1 hk
    rw [List.find?_eq_some_iff_getElem]
    refine ⟨by simpa using hf, k, h1, h2, fun j hj => ?_⟩
    have := hno j l[j] hj (List.getElem?_eq_getElem (by omega))
    simpa using this
  rw [this]; rfl
def NoneTo (l : List F) (x : ByteArray) (k : Nat) : Prop := ∀ j g, j < k → l[j]? = some g → g.1 ≠ x
def GetRel (l : List F) (x : ByteArray) (i : Value) : Prop := ∃ k : Nat, k ≤ l.length ∧ i = .int .i64 k ∧ NoneTo l x k

set_option maxHeartbeats 1000000 in
set_option maxRecDepth 100000 in
theorem refGet_any (A : Option Addr) (n c : Nat) (l : List F) (x : ByteArray) (w : World) (h : RdF w w.heap.size A n c l) (hn : n ≤ 1000000) :
    Calls Tryz.prog 23 #[.slice A n c, .string x] w fun e w' => e = .returned (.tuple #[.string (textF l x), .bool (has l x)]) ∧ w = w' := by
  have HR := Lib.hid h
  have HL := Lib.hid h.1
  clear h
  generalize ht : textF l x = t
  generalize hh : has l x = b
  have HT := Lib.hid ht
  have HH := Lib.hid hh
  clear ht hh
  go_enter Tryz.func23, Tryz.ntmps23
  go_wp2
  go_loop [6] (fun i => GetRel l x i) (fun i => n - (intOf i).toNat)
  case atStart => exact ⟨0, Nat.zero_le _, rfl, fun j g h => by omega⟩
  case round =>
    obtain ⟨k, hk, rfl, hno⟩ := hrel
    have hkn : k ≤ n := by rw [← HL.out]; exact hk
    clear hk
    have HN := Lib.hid hno
    clear hno
    by_cases hlt : k < n
    · obtain ⟨f, hf⟩ : ∃ f, l[k]? = some f := ⟨_, List.getElem?_eq_getElem (by rw [HL.out]; exact hlt)⟩
      obtain ⟨b', off, rfl, _, hc1, hc2⟩ := HR.out.at_ hf
      have hkz : (k : Int) < (n : Int) := by omega
      have HF := Lib.hid hf
      clear hf
      obtain ⟨fx, ft⟩ := f
      cases hq : (fx.toList == x.toList) with
      | true =>
        have hres := first_text HF.out (toList_inj (by simpa using hq)) HN.out
        rw [HT.out, HH.out] at hres
        have HX := Lib.hid hres
        clear hres
        go_wp2
        go_ret2
        exact ⟨by rw [HX.out.1, HX.out.2]; rfl, rfl⟩
      | false =>
        go_wp2
        go_round
        case rel =>
          refine ⟨k + 1, by rw [HL.out]; omega, by go_num, fun j g hj hg => ?_⟩
          rcases Nat.lt_or_ge j k with h1 | h1
          · exact HN.out j g h1 hg
          · obtain rfl : j = k := by omega
            have e1 := HF.out
            rw [e1] at hg
            injection hg with hg
            subst hg
            rintro rfl
            simp at hq
        case measure => simp [intOf]; omega
    · obtain rfl : k = n := by omega
      have hno : has l x = false := by
        cases e : has l x with
        | false => rfl
        | true =>
          obtain ⟨f, hf, e2⟩ := has_iff.1 e
          obtain ⟨j, hj, e3⟩ := List.mem_iff_getElem.1 hf
          exact absurd e2 (by rw [← e3]; exact HN.out j l[j] (by rw [← HL.out]; exact hj) (List.getElem?_eq_getElem hj))
      have ht := textF_none hno
      rw [HH.out] at hno
      rw [HT.out] at ht
      have H1 := Lib.hid hno
      have H2 := Lib.hid ht
      clear hno ht
      go_wp2
      go_ret2
      exact ⟨by rw [H1.out, H2.out]; rfl, rfl⟩
end Go.Proofs.YtpghfefiifhbiaaGreatDoor
