/-
  WALKS: hammerpondref.find and VarMay.
-/
import Derived.Test.YtpghfefiifhbiaaGreatDoorVar
namespace Go.Proofs.YtpghfefiifhbiaaGreatDoor
open Go.RowKit

def findR (s p : Bs) (fr : Nat) : Int := if Lib.index (s.drop fr) p = -1 then -1 else Lib.index (s.drop fr) p + fr
theorem occ_iff (s p : ByteArray) (i : Nat) (h : i + p.size ≤ s.size) : ((s.extract i (i + p.size)).toList == p.toList) = Lib.occAt s.data.toList p.data.toList i := by
  unfold Lib.occAt
  rw [Lib.extract_toList, Lib.toList_data, Bool.eq_iff_iff, beq_iff_eq, List.isPrefixOf_iff_prefix, List.prefix_iff_eq_take]
  have e : i + p.size - i = p.data.toList.length := by simp
  rw [e]
  exact eq_comm
theorem occ_drop (s p : Bs) (fr j : Nat) : Lib.occAt (s.drop fr) p j = Lib.occAt s p (fr + j) := by
  unfold Lib.occAt
  rw [List.drop_drop]
def FdRel (s p : ByteArray) (fr : Nat) (i : Value) : Prop := ∃ k : Nat, k ≤ s.size + 1 ∧ fr ≤ k ∧ i = .int .i64 k ∧ ∀ j, fr ≤ j → j < k → Lib.occAt s.data.toList p.data.toList j = false
theorem find_hit {s p : Bs} {fr k : Nat} (hk : fr ≤ k) (hl : k ≤ s.length) (hno : ∀ j, fr ≤ j → j < k → Lib.occAt s p j = false) (ho : Lib.occAt s p k = true) : findR s p fr = k := by
  have h1 : Lib.index (s.drop fr) p = ((k - fr : Nat) : Int) := by
    refine Lib.index_hit (fun j hj => ?_) (by rw [List.length_drop]; omega) ?_
    · rw [occ_drop]; exact hno _ (by omega) (by omega)
    · rw [occ_drop, show fr + (k - fr) = k by omega]; exact ho
  unfold findR
  rw [h1, if_neg (by omega)]
  omega
theorem find_miss {s p : Bs} {fr k : Nat} (hp : p ≠ []) (hf : fr ≤ s.length) (hk : fr ≤ k) (hl : s.length < k + p.length) (hno : ∀ j, fr ≤ j → j < k → Lib.occAt s p j = false) : findR s p fr = -1 := by
  have h1 : Lib.index (s.drop fr) p = -1 := by
    refine Lib.index_past hp (i := k - fr) (fun j hj => ?_) (by rw [List.length_drop]; omega)
    rw [occ_drop]; exact hno _ (by omega) (by omega)
  unfold findR
  rw [if_pos h1]

set_option maxHeartbeats 1000000 in
set_option maxRecDepth 100000 in
theorem find_any (s p : ByteArray) (fr : Nat) (w : World) (hp : 1 ≤ p.size) (hpb : p.size ≤ 1000) (hfr : fr ≤ s.size) (hs : s.size ≤ 1000000) :
    Calls Tryz.prog 51 #[.string s, .string p, .int .i64 fr] w fun e w' => e = .returned (.int .i64 (findR s.data.toList p.data.toList fr)) ∧ w = w' := by
  obtain ⟨r, hr⟩ : ∃ r, r = findR s.data.toList p.data.toList fr := ⟨_, rfl⟩
  rw [← hr]
  have HR := Lib.hid hr
  clear hr
  have hsl : s.data.toList.length = s.size := by simp
  have hpl : p.data.toList.length = p.size := by simp
  have HSL := Lib.hid hsl
  have HPL := Lib.hid hpl
  have HPN := Lib.hid (show p.data.toList ≠ [] from fun e => by rw [e] at hpl; simp at hpl; omega)
  clear hsl hpl
  go_enter Tryz.func51, Tryz.ntmps51
  go_wp2
  go_loop [7] (fun i => FdRel s p fr i) (fun i => s.size + 1 - (intOf i).toNat)
  case atStart => exact ⟨fr, by omega, Nat.le_refl _, rfl, fun j h1 h2 => by omega⟩
  case round =>
    obtain ⟨k, hk, hfk, rfl, hno⟩ := hrel
    have HNO := Lib.hid hno
    clear hno
    have hw : (k : Int) + (p.size : Int) ≤ 2000000 := by omega
    by_cases hlt : k + p.size ≤ s.size
    · have hkz : (k : Int) + (p.size : Int) ≤ (s.size : Int) := by omega
      have hoc := occ_iff s p k hlt
      cases hq : Lib.occAt s.data.toList p.data.toList k with
      | true =>
        rw [hq] at hoc
        have H1 := Lib.hid (HR.out.trans (find_hit hfk (by rw [HSL.out]; omega) HNO.out hq))
        go_wp2
        go_ret
        exact ⟨by rw [H1.out]; rfl, rfl⟩
      | false =>
        rw [hq] at hoc
        go_wp2
        go_round
        case rel =>
          refine ⟨k + 1, by omega, by omega, by go_num, fun j h1 h2 => ?_⟩
          rcases Nat.lt_or_ge j k with h3 | h3
          · exact HNO.out j h1 h3
          · obtain rfl : j = k := by omega
            exact hq
        case measure => simp [intOf]; omega
    · have hkz : decide ((k : Int) + (p.size : Int) ≤ (s.size : Int)) = false := decide_eq_false (by omega)
      have H1 := Lib.hid (HR.out.trans (find_miss HPN.out (by rw [HSL.out]; exact hfr) hfk (by rw [HSL.out, HPL.out]; omega) HNO.out))
      go_wp2
      go_ret
      exact ⟨by rw [H1.out]; rfl, rfl⟩

end Go.Proofs.YtpghfefiifhbiaaGreatDoor
