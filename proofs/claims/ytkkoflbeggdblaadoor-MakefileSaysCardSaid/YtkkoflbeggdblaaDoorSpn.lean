/-
  PLAIN FACTS ON SPLITTING A TEXT AT BLANKS: what strings.Split and the reference's split give is one list; joining it behind two lines gives the rest of the text. Under no condition on any program.
-/
import Derived.Test.YtkkoflbeggdblaaDoorSpl
import Derived.Lib.SplitLaws
import Derived.Lib.Join
namespace Go.Proofs.YtkkoflbeggdblaaDoor

/-- The lines between blanks. -/
def spn : List UInt8 → List (List UInt8)
  | [] => [[]]
  | b :: l => if b = 10 then [] :: spn l else match spn l with
    | [] => [[b]]
    | h :: t => (b :: h) :: t
theorem spn_ne (l : List UInt8) : spn l ≠ [] := by
  cases l with
  | nil => simp [spn]
  | cons b l => unfold spn; split <;> (try split) <;> simp
theorem spn_blank (l : List UInt8) : spn (10 :: l) = [] :: spn l := by simp [spn]
theorem spn_other {b : UInt8} (hb : b ≠ 10) {l h : List UInt8} {t : List (List UInt8)} (e : spn l = h :: t) : spn (b :: l) = (b :: h) :: t := by
  rw [spn, if_neg hb, e]
/-- One byte more. -/
theorem spn_snoc : ∀ (l : List UInt8) (b : UInt8) (i : List (List UInt8)) (c : List UInt8), spn l = i ++ [c] → spn (l ++ [b]) = if b = 10 then i ++ [c] ++ [[]] else i ++ [c ++ [b]]
  | [], b, i, c, e => by
    have h : i = [] ∧ c = [] := by
      cases i with
      | nil => simpa [spn] using e.symm
      | cons x i => simp [spn] at e
    obtain ⟨rfl, rfl⟩ := h
    by_cases hb : b = 10
    · subst hb; simp [spn]
    · simp [spn, hb]
  | a :: l, b, i, c, e => by
    obtain ⟨h, t, et⟩ : ∃ h t, spn l = h :: t := by
      cases hs : spn l with
      | nil => exact absurd hs (spn_ne l)
      | cons h t => exact ⟨h, t, rfl⟩
    obtain ⟨i', c', ei⟩ : ∃ i' c', spn l = i' ++ [c'] := ⟨(spn l).dropLast, (spn l).getLast (spn_ne l), (List.dropLast_concat_getLast (spn_ne l)).symm⟩
    have ih := spn_snoc l b i' c' ei
    by_cases ha : a = 10
    · subst ha
      rw [spn_blank, ei] at e
      have e1 : i = [] :: i' ∧ c = c' := by
        have : ([] :: i') ++ [c'] = i ++ [c] := by simpa using e
        have h2 := List.append_inj' this rfl
        exact ⟨h2.1.symm, by simpa using h2.2.symm⟩
      obtain ⟨rfl, rfl⟩ := e1
      rw [List.cons_append, spn_blank, ih]
      by_cases hb : b = 10 <;> simp [hb]
    · rw [spn_other ha et] at e
      cases i' with
      | nil =>
        have hc : h = c' ∧ t = [] := by rw [et] at ei; simpa using ei
        obtain ⟨rfl, rfl⟩ := hc
        have hi : i = [] ∧ c = a :: h := by
          cases i with
          | nil => simpa using e.symm
          | cons x i => simp at e
        obtain ⟨rfl, rfl⟩ := hi
        by_cases hb : b = 10
        · rw [if_pos hb] at ih ⊢
          rw [List.cons_append, spn_other ha (by simpa using ih)]
          simp
        · rw [if_neg hb] at ih ⊢
          rw [List.cons_append, spn_other ha (by simpa using ih)]
          simp
      | cons x i' =>
        have hc : h = x ∧ t = i' ++ [c'] := by rw [et] at ei; simpa using ei
        obtain ⟨rfl, rfl⟩ := hc
        have hi : i = (a :: h) :: i' ∧ c = c' := by
          have : ((a :: h) :: i') ++ [c'] = i ++ [c] := by simpa using e
          have h2 := List.append_inj' this rfl
          exact ⟨h2.1.symm, by simpa using h2.2.symm⟩
        obtain ⟨rfl, rfl⟩ := hi
        by_cases hb : b = 10
        · rw [if_pos hb] at ih ⊢
          rw [List.cons_append, spn_other ha (by simpa using ih)]
          simp
        · rw [if_neg hb] at ih ⊢
          rw [List.cons_append, spn_other ha (by simpa using ih)]
          simp

/-- strings.Split's list is this one. -/
theorem splitK_spn : ∀ (l : List UInt8), Lib.splitK [10] 0 (l.count 10) l = spn l
  | [] => rfl
  | b :: l => by
    by_cases hb : b = 10
    · subst hb
      have e : Lib.index (10 :: l) [10] = 0 := by rw [index_one]; simp [Lib.indexByte]
      rw [List.count_cons_self, spn_blank, ← splitK_spn l, Lib.splitK, e]
      simp
    · rw [List.count_cons_of_ne hb]
      have ih := splitK_spn l
      cases hk : l.count 10 with
      | zero =>
        rw [hk] at ih
        have ih' : spn l = [l] := ih.symm
        rw [spn_other hb ih']
        rfl
      | succ k =>
        rw [hk] at ih
        have hm : Lib.index l [10] ≠ -1 := by
          intro e
          unfold Lib.splitK at ih
          rw [e] at ih
          rw [index_one] at e
          have : l.count 10 = 0 := by
            clear ih hk
            induction l with
            | nil => rfl
            | cons x l ih =>
              unfold Lib.indexByte at e
              by_cases hx : x = 10
              · simp [hx] at e
              · rw [List.count_cons_of_ne hx]
                refine ih ?_
                have hx' : (x == 10) = false := by simpa using hx
                rw [hx'] at e
                simp only [Bool.false_eq_true, if_false] at e
                by_cases h1 : Lib.indexByte l 10 = -1
                · exact h1
                · have h1' : (Lib.indexByte l 10 == -1) = false := by simpa using h1
                  rw [h1'] at e
                  simp only [Bool.false_eq_true, if_false] at e
                  have := Lib.indexByte_ge l 10
                  omega
          omega
        have hge : 0 ≤ Lib.index l [10] := by rw [index_one] at hm ⊢; have := Lib.indexByte_ge l 10; omega
        have e2 : Lib.index (b :: l) [10] = Lib.index l [10] + 1 := by
          rw [index_one, index_one] at *
          have hb' : (b == 10) = false := by simpa using hb
          have hm' : (Lib.indexByte l 10 == -1) = false := by simpa using hm
          rw [Lib.indexByte, hb', hm']
          simp
        have hm' : (Lib.index l [10] == -1) = false := by simpa using hm
        have hm2 : (Lib.index (b :: l) [10] == -1) = false := by rw [e2]; simp; omega
        rw [Lib.splitK, hm'] at ih
        simp only [Bool.false_eq_true, if_false] at ih
        rw [Lib.splitK, hm2]
        simp only [Bool.false_eq_true, if_false]
        rw [spn_other hb ih.symm, e2]
        have e3 : (Lib.index l [10] + 1).toNat = (Lib.index l [10]).toNat + 1 := by omega
        rw [e3]
        simp only [Nat.add_zero, List.take_succ_cons, List.length_cons, List.length_nil]
        rw [show (Lib.index l [10]).toNat + 1 + (0 + 1) = ((Lib.index l [10]).toNat + (0 + 1)) + 1 by omega, List.drop_succ_cons]

/-- The lines as texts. -/
def lines (s : ByteArray) : List ByteArray := (spn s.data.toList).map fun l => ⟨l.toArray⟩
theorem lines_ne (s : ByteArray) : lines s ≠ [] := by
  have := spn_ne s.data.toList
  simpa [lines] using this
theorem lines_data (s : ByteArray) : (lines s).map (·.data.toList) = spn s.data.toList := by
  simp [lines, List.map_map, Function.comp_def]
theorem split_lines (s : ByteArray) : Lib.splitB ⟨#[10]⟩ 0 (Lib.countB s ⟨#[10]⟩) s = lines s := by
  apply of_data
  rw [Lib.splitB_data, lines_data]
  have e : Lib.countB s ⟨#[10]⟩ = s.data.toList.count 10 := Lib.count_one 10 _
  rw [e]
  exact splitK_spn _
theorem count_lines (s : ByteArray) : Lib.countB s ⟨#[10]⟩ + 1 = (lines s).length := by
  rw [← split_lines, Lib.splitB_all ⟨#[10]⟩ (by decide) 0 _ s rfl]
end Go.Proofs.YtkkoflbeggdblaaDoor
