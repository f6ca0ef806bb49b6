/-
  WALKS: makefile.words, isPattern, slices.ContainsFunc and IndexFunc at isPattern, makefile.wellShaped, strings.Replace of the first '%'.
-/
import Derived.Test.YtkkoflbeggdblaaDoorAddCmd
import Derived.Test.YtkkoflbeggdblaaDoorConcatS
import Derived.Test.YtkkoflbeggdblaaDoorSplit
namespace Go.Proofs.YtkkoflbeggdblaaDoor
open Go.RowKit

theorem blank_gives (w : World) : PredAt Tryd.prog 110 #[] encR isBlank w := by
  intro W x _
  show Calls Tryd.prog 110 #[encR x] W _
  unfold encR
  have hd : isBlank x = ((x : Int) == 32) := by
    unfold isBlank
    rw [Bool.eq_iff_iff, decide_eq_true_eq, beq_iff_eq]
    omega
  rw [hd]
  go_enter Tryd.func110, Tryd.ntmps110
  go_wp2
  go_ret
  exact ⟨rfl, 0, rfl⟩
def WdPost (l : Bs) (w : World) (e : Ending) (w' : World) : Prop := ∃ A, e = .returned (.slice (some ⟨A, 0, none⟩) (wordsR l).length (wordsR l).length) ∧ w.heap.size ≤ A ∧ Own1 w' w.heap.size (.slice (some ⟨A, 0, none⟩) (wordsR l).length (wordsR l).length) (wordsR l) ∧ Below w.heap.size w w'
theorem words_any (s : ByteArray) (w : World) (hs : s.size ≤ 1000000) : Calls Tryd.prog 89 #[.string s] w (WdPost s.data.toList w) := by
  go_enter Tryd.func89, Tryd.ntmps89
  go_wp2_with fail
  refine (Tryd.strings_FieldsFunc 110 #[] (enters_of Tryd.func110 (by kernel_rfl) rfl) isBlank s w (by omega) (blank_gives w)).mono ?_
  rw [goFields_blank]
  rintro e w' ⟨A, rfl, hA, hown, hb⟩
  have HO := Lib.hid (show Own1 w' w.heap.size (.slice (some ⟨A, 0, none⟩) (wordsR s.data.toList).length (wordsR s.data.toList).length) (wordsR s.data.toList) from hown)
  have HB := Lib.hid hb
  clear hown hb
  have e1 : (List.map ba (fieldsB s.data.toList)) = wordsR s.data.toList := rfl
  rw [e1]
  go_wp2
  go_ret
  exact ⟨A, rfl, hA, HO.out, HB.out⟩
theorem contains37 (s : ByteArray) : Lib.contains s.data.toList [37] = patB s := by
  unfold Lib.contains patB
  rw [Bool.eq_iff_iff, decide_eq_true_eq, decide_eq_true_eq]
  generalize s.data.toList = l
  induction l with
  | nil => simp [Lib.index]
  | cons b l ih =>
    unfold Lib.index
    by_cases hb : b = 37
    · subst hb
      simp [List.isPrefixOf]
    · have h1 : ([37] : Bs).isPrefixOf (b :: l) = false := by simp [List.isPrefixOf, Ne.symm hb]
      rw [h1]
      simp only [Bool.false_eq_true, if_false, List.mem_cons]
      have hge := Lib.index_ge l [37]
      have hb' : ¬ (37 : UInt8) = b := fun e => hb e.symm
      split
      · rename_i h2
        have h2' : Lib.index l [37] = -1 := by simpa using h2
        rw [h2'] at ih
        constructor
        · intro h; omega
        · rintro (h | h)
          · exact absurd h hb'
          · have := ih.2 h; omega
      · rename_i h2
        have h2' : Lib.index l [37] ≠ -1 := by simpa using h2
        constructor
        · intro _; exact .inr (ih.1 (by omega))
        · intro _; omega
theorem isPattern_any (s : ByteArray) (w : World) (hs : s.size ≤ 1000000) (hm : MaxOk w) : Calls Tryd.prog 112 #[.string s] w fun e w' => e = .returned (.bool (patB s)) ∧ w = w' := by
  obtain ⟨m, hm⟩ := hm
  rw [← contains37]
  go_enter Tryd.func112, Tryd.ntmps112
  go_wp2_with fail
  refine (Tryd.strings_Contains s ⟨#[37]⟩ m w (by omega) hm).mono ?_
  rintro e w' ⟨rfl, rfl⟩
  go_wp2
  go_ret
  exact ⟨rfl, rfl⟩

def IfRel (l : List ByteArray) (i : Value) : Prop := ∃ k : Nat, k ≤ l.length ∧ i = .int .i64 k ∧ ∀ j g, j < k → l[j]? = some g → patB g = false
theorem anyPat_at {l : List ByteArray} {k : Nat} {f : ByteArray} (h : l[k]? = some f) (e : patB f = true) : l.any patB = true := by
  rw [List.any_eq_true]
  exact ⟨f, List.mem_of_getElem? h, e⟩
theorem anyPat_no {l : List ByteArray} (h : ∀ j g, j < l.length → l[j]? = some g → patB g = false) : l.any patB = false := by
  rw [List.any_eq_false]
  intro f hf
  obtain ⟨j, hj, e⟩ := List.mem_iff_getElem.1 hf
  have := h j f hj (by rw [List.getElem?_eq_getElem hj, e])
  rw [this]
  simp
set_option maxHeartbeats 1000000 in
set_option maxRecDepth 100000 in
theorem indexFunc_any (A : Option Addr) (n c : Nat) (l : List ByteArray) (w : World) (h : RdS w w.heap.size A n c l) (hn : n ≤ 1000000) (hs : ∀ x ∈ l, x.size ≤ 1000000) (hm : MaxOk w) :
    Calls Tryd.prog 128 #[.slice A n c, .func (.func 112) #[] #[]] w fun e w' => ∃ i : Int, e = .returned (.int .i64 i) ∧ l.any patB = decide (0 ≤ i) ∧ w = w' := by
  have HR := Lib.hid h
  have HL := Lib.hid h.1
  have HM := Lib.hid hm
  have HSZ := Lib.hid hs
  have he := enters_of Tryd.func112 (by kernel_rfl) rfl
  clear h hm hs
  go_enter Tryd.func128, Tryd.ntmps128
  go_wp2
  go_loop [8] (fun i => IfRel l i) (fun i => n - (intOf i).toNat)
  case atStart => exact ⟨0, Nat.zero_le _, rfl, fun j g h => by omega⟩
  case round =>
    obtain ⟨k, hk, rfl, hno⟩ := hrel
    have hkn : k ≤ n := by rw [← HL.out]; exact hk
    clear hk
    have HN := Lib.hid hno
    clear hno
    by_cases hlt : k < n
    · obtain ⟨f, hf⟩ : ∃ f, l[k]? = some f := ⟨_, List.getElem?_eq_getElem (by rw [HL.out]; exact hlt)⟩
      obtain ⟨b', off, rfl, _, hc1⟩ := HR.out.at_ hf
      have hkz : (k : Int) < (n : Int) := by omega
      have hfs : f.size ≤ 1000000 := HSZ.out f (List.mem_of_getElem? hf)
      have HF := Lib.hid hf
      clear hf
      go_wp2_with fail
      refine (isPattern_any f w hfs HM.out).mono ?_
      rintro e w' ⟨rfl, rfl⟩
      cases hq : patB f with
      | true =>
        have HX := Lib.hid (anyPat_at HF.out hq)
        go_wp2
        go_ret
        exact ⟨k, rfl, by rw [HX.out]; simp, rfl⟩
      | false =>
        go_wp2
        go_round
        case rel =>
          refine ⟨k + 1, by rw [HL.out]; omega, by go_num, fun j g hj hg => ?_⟩
          rcases Nat.lt_or_ge j k with h1 | h1
          · exact HN.out j g h1 hg
          · obtain rfl : j = k := by omega
            have e1 := HF.out
            rw [e1] at hg
            injection hg with hg
            subst hg
            exact hq
        case measure => simp [intOf]; omega
    · obtain rfl : k = n := by omega
      have H1 := Lib.hid (anyPat_no (l := l) (fun j g hj hg => HN.out j g (by rw [← HL.out]; exact hj) hg))
      go_wp2
      go_ret
      exact ⟨-1, rfl, by rw [H1.out]; rfl, rfl⟩
theorem containsFunc_any (A : Option Addr) (n c : Nat) (l : List ByteArray) (w : World) (h : RdS w w.heap.size A n c l) (hn : n ≤ 1000000) (hs : ∀ x ∈ l, x.size ≤ 1000000) (hm : MaxOk w) :
    Calls Tryd.prog 111 #[.slice A n c, .func (.func 112) #[] #[]] w fun e w' => e = .returned (.bool (l.any patB)) ∧ w = w' := by
  have HR := Lib.hid h
  have HM := Lib.hid hm
  have HS := Lib.hid hs
  clear h hm hs
  generalize hh : l.any patB = b
  have HH := Lib.hid hh
  clear hh
  go_enter Tryd.func111, Tryd.ntmps111
  go_wp2_with fail
  refine (indexFunc_any A n c l w HR.out hn HS.out HM.out).mono ?_
  rintro e w1 ⟨i, rfl, hi, rfl⟩
  rw [HH.out] at hi
  have HI := Lib.hid hi
  clear hi
  go_wp2
  go_ret
  exact ⟨by rw [HI.out]; rfl, rfl⟩
theorem replace_once (s : ByteArray) : (⟨(Lib.replace s.data.toList [37] [97] 1).toArray⟩ : ByteArray) = onceR s := by
  unfold Lib.replace onceR
  rw [if_neg (by decide)]
  have hge := Lib.index_ge s.data.toList [37]
  by_cases h : Lib.index s.data.toList [37] = -1
  · rw [cut_none h]
    have hc : Lib.count s.data.toList [37] = 0 := by
      unfold Lib.count Lib.countFrom
      simp [h]
    have hn : Lib.replaceNum s.data.toList [37] 1 = 0 := by unfold Lib.replaceNum; rw [hc]; simp
    rw [hn]
    simp only [Lib.replaceK, Bool.false_eq_true, if_false]
  · obtain ⟨i, ei⟩ : ∃ i : Nat, Lib.index s.data.toList [37] = i := ⟨(Lib.index s.data.toList [37]).toNat, by omega⟩
    rw [cut_at ei]
    have hc : 1 ≤ Lib.count s.data.toList [37] := by
      unfold Lib.count Lib.countFrom
      have : (Lib.index s.data.toList [37] == -1) = false := by rw [beq_eq_false_iff_ne]; exact h
      rw [this]
      simp
    have hn : Lib.replaceNum s.data.toList [37] 1 = 1 := by unfold Lib.replaceNum; rw [if_neg (by omega)]; rfl
    rw [hn, Lib.replaceK_hit _ _ _ _ i ei]
    simp [Lib.replaceK, ba]
theorem replace_any (s : ByteArray) (w : World) (hs : s.size ≤ 1000000) (hm : MaxOk w) : Calls Tryd.prog 114 #[.string s, .string ⟨#[37]⟩, .string ⟨#[97]⟩, .int .i64 1] w fun e w' => e = .returned (.string (onceR s)) ∧ Below w.heap.size w w' := by
  obtain ⟨m, hm⟩ := hm
  refine (Tryd.strings_Replace s ⟨#[37]⟩ ⟨#[97]⟩ 1 m w (by omega) hm (by decide) ?_).mono ?_
  · have h1 : Lib.countB s ⟨#[37]⟩ ≤ s.size := by
      have : Lib.countB s ⟨#[37]⟩ = s.data.toList.count 37 := Lib.count_one 37 _
      rw [this]
      have := List.count_le_length (a := (37 : UInt8)) (l := s.data.toList)
      simpa using this
    have h2 : (⟨#[97]⟩ : ByteArray).size = 1 := rfl
    rw [h2]
    omega
  · rintro e w' ⟨rfl, hb⟩
    exact ⟨by rw [← replace_once], hb⟩
end Go.Proofs.YtkkoflbeggdblaaDoor
