/-
  PLAIN FACTS ON SPLITTING A TEXT AT BLANKS: what strings.Split and the reference's split give is one list; joining it behind two words gives the rest of the text. Under no condition on any program.
-/
import Derived.Test.YtkkoflbeggdblaaDoorMem
import Derived.Lib.SplitLaws
import Derived.Lib.Join
namespace Go.Proofs.YtkkoflbeggdblaaDoor

/-- The words between blanks. -/
def spl : List UInt8 → List (List UInt8)
  | [] => [[]]
  | b :: l => if b = 32 then [] :: spl l else match spl l with
    | [] => [[b]]
    | h :: t => (b :: h) :: t
theorem spl_ne (l : List UInt8) : spl l ≠ [] := by
  cases l with
  | nil => simp [spl]
  | cons b l => unfold spl; split <;> (try split) <;> simp
theorem spl_blank (l : List UInt8) : spl (32 :: l) = [] :: spl l := by simp [spl]
theorem spl_other {b : UInt8} (hb : b ≠ 32) {l h : List UInt8} {t : List (List UInt8)} (e : spl l = h :: t) : spl (b :: l) = (b :: h) :: t := by
  rw [spl, if_neg hb, e]
/-- One byte more. -/
theorem spl_snoc : ∀ (l : List UInt8) (b : UInt8) (i : List (List UInt8)) (c : List UInt8), spl l = i ++ [c] → spl (l ++ [b]) = if b = 32 then i ++ [c] ++ [[]] else i ++ [c ++ [b]]
  | [], b, i, c, e => by
    have h : i = [] ∧ c = [] := by
      cases i with
      | nil => simpa [spl] using e.symm
      | cons x i => simp [spl] at e
    obtain ⟨rfl, rfl⟩ := h
    by_cases hb : b = 32
    · subst hb; simp [spl]
    · simp [spl, hb]
  | a :: l, b, i, c, e => by
    obtain ⟨h, t, et⟩ : ∃ h t, spl l = h :: t := by
      cases hs : spl l with
      | nil => exact absurd hs (spl_ne l)
      | cons h t => exact ⟨h, t, rfl⟩
    obtain ⟨i', c', ei⟩ : ∃ i' c', spl l = i' ++ [c'] := ⟨(spl l).dropLast, (spl l).getLast (spl_ne l), (List.dropLast_concat_getLast (spl_ne l)).symm⟩
    have ih := spl_snoc l b i' c' ei
    by_cases ha : a = 32
    · subst ha
      rw [spl_blank, ei] at e
      have e1 : i = [] :: i' ∧ c = c' := by
        have : ([] :: i') ++ [c'] = i ++ [c] := by simpa using e
        have h2 := List.append_inj' this rfl
        exact ⟨h2.1.symm, by simpa using h2.2.symm⟩
      obtain ⟨rfl, rfl⟩ := e1
      rw [List.cons_append, spl_blank, ih]
      by_cases hb : b = 32 <;> simp [hb]
    · rw [spl_other ha et] at e
      cases i' with
      | nil =>
        have hc : h = c' ∧ t = [] := by rw [et] at ei; simpa using ei
        obtain ⟨rfl, rfl⟩ := hc
        have hi : i = [] ∧ c = a :: h := by
          cases i with
          | nil => simpa using e.symm
          | cons x i => simp at e
        obtain ⟨rfl, rfl⟩ := hi
        by_cases hb : b = 32
        · rw [if_pos hb] at ih ⊢
          rw [List.cons_append, spl_other ha (by simpa using ih)]
          simp
        · rw [if_neg hb] at ih ⊢
          rw [List.cons_append, spl_other ha (by simpa using ih)]
          simp
      | cons x i' =>
        have hc : h = x ∧ t = i' ++ [c'] := by rw [et] at ei; simpa using ei
        obtain ⟨rfl, rfl⟩ := hc
        have hi : i = (a :: h) :: i' ∧ c = c' := by
          have : ((a :: h) :: i') ++ [c'] = i ++ [c] := by simpa using e
          have h2 := List.append_inj' this rfl
          exact ⟨h2.1.symm, by simpa using h2.2.symm⟩
        obtain ⟨rfl, rfl⟩ := hi
        by_cases hb : b = 32
        · rw [if_pos hb] at ih ⊢
          rw [List.cons_append, spl_other ha (by simpa using ih)]
          simp
        · rw [if_neg hb] at ih ⊢
          rw [List.cons_append, spl_other ha (by simpa using ih)]
          simp

/-- strings.Split's list is this one. -/
theorem index_one (c : UInt8) : ∀ l : List UInt8, Lib.index l [c] = Lib.indexByte l c
  | [] => rfl
  | b :: l => by
    unfold Lib.index Lib.indexByte
    rw [index_one c l]
    by_cases h : b = c
    · simp [h, List.isPrefixOf]
    · have h' : c ≠ b := fun e => h e.symm
      simp [h, h', List.isPrefixOf]
theorem splitK_spl : ∀ (l : List UInt8), Lib.splitK [32] 0 (l.count 32) l = spl l
  | [] => rfl
  | b :: l => by
    by_cases hb : b = 32
    · subst hb
      have e : Lib.index (32 :: l) [32] = 0 := by rw [index_one]; simp [Lib.indexByte]
      rw [List.count_cons_self, spl_blank, ← splitK_spl l, Lib.splitK, e]
      simp
    · rw [List.count_cons_of_ne hb]
      have ih := splitK_spl l
      cases hk : l.count 32 with
      | zero =>
        rw [hk] at ih
        have ih' : spl l = [l] := ih.symm
        rw [spl_other hb ih']
        rfl
      | succ k =>
        rw [hk] at ih
        have hm : Lib.index l [32] ≠ -1 := by
          intro e
          unfold Lib.splitK at ih
          rw [e] at ih
          rw [index_one] at e
          have : l.count 32 = 0 := by
            clear ih hk
            induction l with
            | nil => rfl
            | cons x l ih =>
              unfold Lib.indexByte at e
              by_cases hx : x = 32
              · simp [hx] at e
              · rw [List.count_cons_of_ne hx]
                refine ih ?_
                have hx' : (x == 32) = false := by simpa using hx
                rw [hx'] at e
                simp only [Bool.false_eq_true, if_false] at e
                by_cases h1 : Lib.indexByte l 32 = -1
                · exact h1
                · have h1' : (Lib.indexByte l 32 == -1) = false := by simpa using h1
                  rw [h1'] at e
                  simp only [Bool.false_eq_true, if_false] at e
                  have := Lib.indexByte_ge l 32
                  omega
          omega
        have hge : 0 ≤ Lib.index l [32] := by rw [index_one] at hm ⊢; have := Lib.indexByte_ge l 32; omega
        have e2 : Lib.index (b :: l) [32] = Lib.index l [32] + 1 := by
          rw [index_one, index_one] at *
          have hb' : (b == 32) = false := by simpa using hb
          have hm' : (Lib.indexByte l 32 == -1) = false := by simpa using hm
          rw [Lib.indexByte, hb', hm']
          simp
        have hm' : (Lib.index l [32] == -1) = false := by simpa using hm
        have hm2 : (Lib.index (b :: l) [32] == -1) = false := by rw [e2]; simp; omega
        rw [Lib.splitK, hm'] at ih
        simp only [Bool.false_eq_true, if_false] at ih
        rw [Lib.splitK, hm2]
        simp only [Bool.false_eq_true, if_false]
        rw [spl_other hb ih.symm, e2]
        have e3 : (Lib.index l [32] + 1).toNat = (Lib.index l [32]).toNat + 1 := by omega
        rw [e3]
        simp only [Nat.add_zero, List.take_succ_cons, List.length_cons, List.length_nil]
        rw [show (Lib.index l [32]).toNat + 1 + (0 + 1) = ((Lib.index l [32]).toNat + (0 + 1)) + 1 by omega, List.drop_succ_cons]

/-- The words as texts. -/
def words (s : ByteArray) : List ByteArray := (spl s.data.toList).map fun l => ⟨l.toArray⟩
theorem words_ne (s : ByteArray) : words s ≠ [] := by
  have := spl_ne s.data.toList
  simpa [words] using this
theorem of_data {a b : List ByteArray} (h : a.map (·.data.toList) = b.map (·.data.toList)) : a = b := by
  induction a generalizing b with
  | nil => cases b <;> simp_all
  | cons x a ih =>
    cases b with
    | nil => simp at h
    | cons y b =>
      simp only [List.map_cons, List.cons.injEq] at h
      obtain ⟨⟨x⟩⟩ := x
      obtain ⟨⟨y⟩⟩ := y
      have e : x = y := h.1
      rw [ih h.2, e]
theorem words_data (s : ByteArray) : (words s).map (·.data.toList) = spl s.data.toList := by
  simp [words, List.map_map, Function.comp_def]
theorem split_words (s : ByteArray) : Lib.splitB ⟨#[32]⟩ 0 (Lib.countB s ⟨#[32]⟩) s = words s := by
  apply of_data
  rw [Lib.splitB_data, words_data]
  have e : Lib.countB s ⟨#[32]⟩ = s.data.toList.count 32 := Lib.count_one 32 _
  rw [e]
  exact splitK_spl _
theorem count_words (s : ByteArray) : Lib.countB s ⟨#[32]⟩ + 1 = (words s).length := by
  rw [← split_words, Lib.splitB_all ⟨#[32]⟩ (by decide) 0 _ s rfl]
end Go.Proofs.YtkkoflbeggdblaaDoor
