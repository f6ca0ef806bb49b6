/-
  THE WALK OF hammerpondtop.TopStem: for all four texts the call returns true, and nothing that was there has turned.
-/
import Derived.Test.YtpolnompiinanaaStem
namespace Go.Proofs.Ytpolnompiinanaa
open Go.RowKit

def plainB (s : ByteArray) : Bool := s.data.toList.all fun b => decide (b ≠ 37)
def PlRel (s : ByteArray) (i : Value) : Prop := ∃ k : Nat, k ≤ s.size ∧ i = .int .i64 k ∧ ∀ j (hj : j < s.size), j < k → s[j] ≠ 37
theorem plainB_bad {s : ByteArray} {k : Nat} (hk : k < s.size) (h : s[k] = 37) : plainB s = false := by
  unfold plainB
  rw [List.all_eq_false]
  exact ⟨s[k], by rw [List.mem_iff_getElem]; exact ⟨k, by simpa using hk, rfl⟩, by simp [h]⟩
theorem plainB_all {s : ByteArray} (h : ∀ j (hj : j < s.size), s[j] ≠ 37) : plainB s = true := by
  unfold plainB
  rw [List.all_eq_true]
  intro b hb
  obtain ⟨j, hj, e⟩ := List.mem_iff_getElem.1 hb
  have := h j (by simpa using hj)
  rw [← e]
  exact decide_eq_true this
theorem byte37 {b : UInt8} (h : ((b.toNat : Int) == 37) = true) : b = 37 := by
  have h' : (b.toNat : Int) = 37 := by simpa using h
  exact UInt8.toNat_inj.1 (by have : (37 : UInt8).toNat = 37 := rfl; omega)
theorem byte37n {b : UInt8} (h : ((b.toNat : Int) == 37) = false) : b ≠ 37 := by rintro rfl; simp at h

set_option maxHeartbeats 1000000 in
set_option maxRecDepth 100000 in
theorem plain_any (s : ByteArray) (w : World) (hs : s.size ≤ 1000000) : Calls Try.prog 41 #[.string s] w fun e w' => e = .returned (.bool (plainB s)) ∧ w = w' := by
  generalize hb : plainB s = b
  have HB := Lib.hid hb
  clear hb
  go_enter Try.func41, Try.ntmps41
  go_wp2
  go_loop [3] (fun i => PlRel s i) (fun i => s.size - (intOf i).toNat)
  case atStart => exact ⟨0, Nat.zero_le _, rfl, fun j hj h => by omega⟩
  case round =>
    obtain ⟨k, hk, rfl, hall⟩ := hrel
    have HA := Lib.hid hall
    clear hall
    by_cases hlt : k < s.size
    · have hkz : (k : Int) < (s.size : Int) := by omega
      cases hq : ((s[k].toNat : Int) == 37) with
      | true =>
        have H1 := Lib.hid (plainB_bad hlt (byte37 hq))
        go_wp2
        go_ret
        exact ⟨by rw [← HB.out, H1.out]; rfl, rfl⟩
      | false =>
        have HC := Lib.hid (byte37n hq)
        go_wp2
        go_round
        case rel =>
          refine ⟨k + 1, by omega, by go_num, fun j hj h => ?_⟩
          rcases Nat.lt_or_ge j k with h' | h'
          · exact HA.out j hj h'
          · obtain rfl : j = k := by omega
            exact HC.out
        case measure => simp [intOf]; omega
    · obtain rfl : k = s.size := by omega
      have H1 := Lib.hid (plainB_all (fun j hj => HA.out j hj hj))
      go_wp2
      go_ret
      exact ⟨by rw [← HB.out, H1.out]; rfl, rfl⟩

theorem index_pct (l r : Bs) (h : ∀ b ∈ l, b ≠ 37) : Lib.index (l ++ 37 :: r) [37] = (l.length : Int) := by
  refine Lib.index_hit (fun k hk => ?_) (by simp) ?_
  · unfold Lib.occAt
    rw [List.drop_append_of_le_length (by omega), List.drop_eq_getElem_cons hk]
    have := h l[k] (List.getElem_mem hk)
    simp only [List.cons_append, List.isPrefixOf, List.isPrefixOf_nil_left, Bool.and_true]
    simpa using fun e => this e.symm
  · unfold Lib.occAt
    simp [List.isPrefixOf]
theorem cut_pct (a b : ByteArray) (h : plainB a = true) : cutB (a ++ ⟨#[37]⟩ ++ b) [37] = (a.data.toList, b.data.toList, true) := by
  have e : (a ++ (⟨#[37]⟩ : ByteArray) ++ b).data.toList = a.data.toList ++ 37 :: b.data.toList := by simp
  unfold cutB
  rw [e]
  have h' : ∀ x ∈ a.data.toList, x ≠ 37 := by
    intro x hx
    have := List.all_eq_true.1 h x hx
    simpa using this
  rw [cut_at (index_pct _ _ h')]
  have e1 : (a.data.toList ++ 37 :: b.data.toList).take a.data.toList.length = a.data.toList := by rw [List.take_append_of_le_length (Nat.le_refl _), List.take_length]
  have e2 : (a.data.toList ++ 37 :: b.data.toList).drop (a.data.toList.length + [(37 : UInt8)].length) = b.data.toList := by rw [← List.drop_drop]; simp only [List.drop_left]; rfl
  rw [e1, e2]
theorem ext_of {s t : ByteArray} (h : s.data.toList = t.data.toList) : s = t := by rw [← ba_of s, ← ba_of t, h]
/-- A name that matches is the pattern with its stem. -/
theorem stem_back (a b n : ByteArray) (h : plainB a = true) (hs : (stemR (a ++ ⟨#[37]⟩ ++ b) n).2 = true) : (stemR (a ++ ⟨#[37]⟩ ++ b) n).1 ≠ ⟨#[]⟩ ∧ a ++ (stemR (a ++ ⟨#[37]⟩ ++ b) n).1 ++ b = n := by
  unfold stemR at hs ⊢
  rw [cut_pct a b h] at hs ⊢
  simp only at hs ⊢
  split at hs
  · rename_i hc
    obtain ⟨_, hp, hf, hl⟩ := hc
    rw [if_pos ⟨by trivial, hp, hf, hl⟩]
    rw [Lib.hasPrefix, List.isPrefixOf_iff_prefix] at hp
    rw [Lib.hasSuffix, List.isSuffixOf_iff_suffix] at hf
    have hn : n.data.toList.length = n.size := by simp
    constructor
    · intro e
      have := congrArg ByteArray.size e
      simp only [ByteArray.size_extract] at this
      have z : (⟨#[]⟩ : ByteArray).size = 0 := rfl
      omega
    · apply ext_of
      simp only [data_append]
      rw [Lib.extract_data]
      rw [List.prefix_iff_eq_take] at hp
      rw [List.suffix_iff_eq_drop] at hf
      rw [hn] at hf
      have e1 : n.data.toList = n.data.toList.take a.data.toList.length ++ ((n.data.toList.drop a.data.toList.length).take (n.size - b.data.toList.length - a.data.toList.length) ++ n.data.toList.drop (n.size - b.data.toList.length)) := by
        have h1 := (List.take_append_drop a.data.toList.length n.data.toList).symm
        have h2 := (List.take_append_drop (n.size - b.data.toList.length - a.data.toList.length) (n.data.toList.drop a.data.toList.length)).symm
        rw [List.drop_drop] at h2
        rw [show a.data.toList.length + (n.size - b.data.toList.length - a.data.toList.length) = n.size - b.data.toList.length by omega] at h2
        rw [← h2]
        exact h1
      rw [← hp, ← hf] at e1
      rw [List.append_assoc]
      exact e1.symm
  · cases hs
theorem stem_forth (a b m : ByteArray) (h : plainB a = true) : stemR (a ++ ⟨#[37]⟩ ++ b) (a ++ m ++ b) = if m = ⟨#[]⟩ then (⟨#[]⟩, false) else (m, true) := by
  unfold stemR
  rw [cut_pct a b h]
  simp only
  have hz : (a ++ m ++ b).size = a.size + m.size + b.size := by simp
  have ha : a.data.toList.length = a.size := by simp
  have hb : b.data.toList.length = b.size := by simp
  by_cases hm : m = ⟨#[]⟩
  · have z : m.size = 0 := by rw [hm]; rfl
    rw [if_pos hm, if_neg]
    rintro ⟨_, _, _, hl⟩
    omega
  · have z : m.size ≠ 0 := by
      intro z
      apply hm
      apply ext_of
      exact List.eq_nil_of_length_eq_zero (by simpa using z)
    rw [if_neg hm, if_pos]
    · congr 1
      apply ext_of
      rw [Lib.extract_data]
      simp only [data_append, hz, ha, hb]
      rw [List.append_assoc, List.drop_append_of_le_length (by omega), List.drop_of_length_le (by omega), List.nil_append, List.take_append_of_le_length (by simp), List.take_of_length_le (by simp)]
    · refine ⟨by trivial, ?_, ?_, by omega⟩
      · rw [Lib.hasPrefix, List.isPrefixOf_iff_prefix]
        simp only [data_append, List.append_assoc]
        exact List.prefix_append _ _
      · rw [Lib.hasSuffix, List.isSuffixOf_iff_suffix]
        simp only [data_append]
        exact List.suffix_append _ _
theorem stem_xo : stemR ⟨#[37, 46, 111]⟩ ⟨#[120, 46, 111]⟩ = (⟨#[120]⟩, true) := by
  have := stem_forth ⟨#[]⟩ ⟨#[46, 111]⟩ ⟨#[120]⟩ (by decide)
  rw [if_neg (by decide)] at this
  exact this

set_option maxHeartbeats 4000000 in
set_option maxRecDepth 100000 in
theorem topStem_any (a b m n : ByteArray) (w : World) (hza : a.size ≤ 9223372036854775807) (hzb : b.size ≤ 9223372036854775807) (hzm : m.size ≤ 9223372036854775807) (hzn : n.size ≤ 9223372036854775807) (hm : MaxOk w) :
    Calls Try.prog 8 #[.string a, .string b, .string m, .string n] w fun e w' => e = .returned (.bool true) ∧ Below w.heap.size w w' := by
  have HM := Lib.hid hm
  clear hm
  go_enter Try.func8, Try.ntmps8
  go_wp2_with fail
  refine (stem_any ⟨#[37, 46, 111]⟩ ⟨#[120, 46, 111]⟩ w (by decide) (by decide) HM.out).mono ?_
  rintro e w1 ⟨rfl, hb1⟩
  rw [stem_xo]
  have HB1 := Lib.hid hb1
  have HM1 := Lib.hid (HM.out.below hb1)
  clear hb1 HM
  by_cases q1 : 20 < a.size
  · have t : (20 : Int) < (a.size : Int) := by omega
    go_wp2
    go_ret
    exact ⟨rfl, HB1.out⟩
  have d1 : decide ((20 : Int) < (a.size : Int)) = false := decide_eq_false (by omega)
  by_cases q2 : 20 < b.size
  · have t : (20 : Int) < (b.size : Int) := by omega
    go_wp2
    go_ret
    exact ⟨rfl, HB1.out⟩
  have d2 : decide ((20 : Int) < (b.size : Int)) = false := decide_eq_false (by omega)
  by_cases q3 : 20 < m.size
  · have t : (20 : Int) < (m.size : Int) := by omega
    go_wp2
    go_ret
    exact ⟨rfl, HB1.out⟩
  have d3 : decide ((20 : Int) < (m.size : Int)) = false := decide_eq_false (by omega)
  by_cases q4 : 40 < n.size
  · have t : (40 : Int) < (n.size : Int) := by omega
    go_wp2
    go_ret
    exact ⟨rfl, HB1.out⟩
  have d4 : decide ((40 : Int) < (n.size : Int)) = false := decide_eq_false (by omega)
  go_wp2_with fail
  refine (plain_any a _ (by omega)).mono ?_
  rintro e w1' ⟨rfl, rfl⟩
  cases hpa : plainB a with
  | false =>
    go_wp2
    go_ret
    exact ⟨rfl, HB1.out⟩
  | true =>
  go_wp2_with fail
  refine (plain_any b _ (by omega)).mono ?_
  rintro e w1' ⟨rfl, rfl⟩
  cases hpb : plainB b with
  | false =>
    go_wp2
    go_ret
    exact ⟨rfl, HB1.out⟩
  | true =>
  have hs1 := stem_back a b n hpa
  have hf1 := stem_forth a b m hpa
  have hza1 : (a ++ (⟨#[37]⟩ : ByteArray) ++ b).size ≤ 1000 := by rw [ByteArray.size_append, ByteArray.size_append]; have : (⟨#[37]⟩ : ByteArray).size = 1 := rfl; omega
  have hza2 : (a ++ m ++ b).size ≤ 1000 := by rw [ByteArray.size_append, ByteArray.size_append]; omega
  go_wp2_with fail
  generalize hP : a ++ ({ data := #[37] } : ByteArray) ++ b = P at *
  have HP := Lib.hid hP
  clear hP
  have HF := Lib.hid hf1
  have HS := Lib.hid hs1
  clear hf1 hs1
  refine (stem_any P n w1 (by omega) (by omega) HM1.out).mono ?_
  rintro e w2 ⟨rfl, hb2⟩
  have HB2 := Lib.hid (HB1.out.trans (hb2.mono HB1.out.size))
  have HM2 := Lib.hid (HM1.out.below hb2)
  clear hb2 HB1 HM1
  revert HS
  generalize stemR P n = r
  obtain ⟨r1, r2⟩ := r
  intro HS
  dsimp only at HS ⊢
  cases r2 with
  | true =>
    obtain ⟨h1, h2⟩ := HS.out rfl
    have t1 : (r1.toList == []) = false := by
      rw [beq_eq_false_iff_ne]
      intro e
      exact h1 (ext_of (by rw [← Lib.toList_data, e]))
    have t2 : ((a ++ r1 ++ b).toList == n.toList) = true := by rw [h2]; simp
    have hr1 : r1.size ≤ 40 := by
      have := congrArg ByteArray.size h2
      rw [ByteArray.size_append, ByteArray.size_append] at this
      omega
    have hr2 : a.size + r1.size ≤ 60 := by omega
    have hr3 : (a ++ r1).size + b.size ≤ 80 := by rw [ByteArray.size_append]; omega
    clear h1 h2 HS
    go_wp2_with fail
    rw [HP.out]
    generalize a ++ m ++ b = Q at *
    refine (stem_any P Q w2 (by omega) (by omega) HM2.out).mono ?_
    rintro e w3 ⟨rfl, hb3⟩
    have HB3 := Lib.hid (HB2.out.trans (hb3.mono HB2.out.size))
    clear hb3 HB2 HM2
    rw [HF.out]
    by_cases hm0 : m = ⟨#[]⟩
    · rw [if_pos hm0]
      subst hm0
      go_wp2
      go_ret
      exact ⟨rfl, HB3.out⟩
    · rw [if_neg hm0]
      have t3 : (m.toList == []) = false := by
        rw [beq_eq_false_iff_ne]
        intro e
        exact hm0 (ext_of (by rw [← Lib.toList_data, e]))
      clear HF
      go_wp2
      go_ret
      exact ⟨by first | rfl | simp, HB3.out⟩
  | false =>
    clear HS
    go_wp2_with fail
    rw [HP.out]
    generalize a ++ m ++ b = Q at *
    refine (stem_any P Q w2 (by omega) (by omega) HM2.out).mono ?_
    rintro e w3 ⟨rfl, hb3⟩
    have HB3 := Lib.hid (HB2.out.trans (hb3.mono HB2.out.size))
    clear hb3 HB2 HM2
    rw [HF.out]
    by_cases hm0 : m = ⟨#[]⟩
    · rw [if_pos hm0]
      subst hm0
      go_wp2
      go_ret
      exact ⟨rfl, HB3.out⟩
    · rw [if_neg hm0]
      have t3 : (m.toList == []) = false := by
        rw [beq_eq_false_iff_ne]
        intro e
        exact hm0 (ext_of (by rw [← Lib.toList_data, e]))
      clear HF
      go_wp2
      go_ret
      exact ⟨by first | rfl | simp, HB3.out⟩
end Go.Proofs.Ytpolnompiinanaa
