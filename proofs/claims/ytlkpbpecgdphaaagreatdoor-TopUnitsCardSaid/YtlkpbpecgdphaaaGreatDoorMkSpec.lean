/-
  PLAIN WORDS (no program): a build description; what a line makes of it; what a text comes to; comments change nothing.
-/
import Derived.Test.YtlkpbpecgdphaaaGreatDoorSearch
import Derived.Lib.SplitLaws
import Derived.Lib.Join
import Derived.Test.YtlkpbpecgdphaaaGreatDoorName
import Derived.Test.YtlkpbpecgdphaaaGreatDoorTexts
namespace Go.Proofs.YtlkpbpecgdphaaaGreatDoor

/-- The words between blanks. -/
def spl : List UInt8 → List (List UInt8)
  | [] => [[]]
  | b :: l => if b = 32 then [] :: spl l else match spl l with
    | [] => [[b]]
    | h :: t => (b :: h) :: t
theorem spl_ne (l : List UInt8) : spl l ≠ [] := by
  cases l with
  | nil => simp [spl]
  | cons b l => unfold spl; split <;> (try split) <;> simp
theorem spl_blank (l : List UInt8) : spl (32 :: l) = [] :: spl l := by simp [spl]
theorem spl_other {b : UInt8} (hb : b ≠ 32) {l h : List UInt8} {t : List (List UInt8)} (e : spl l = h :: t) : spl (b :: l) = (b :: h) :: t := by
  rw [spl, if_neg hb, e]
/-- One byte more. -/
theorem spl_snoc : ∀ (l : List UInt8) (b : UInt8) (i : List (List UInt8)) (c : List UInt8), spl l = i ++ [c] → spl (l ++ [b]) = if b = 32 then i ++ [c] ++ [[]] else i ++ [c ++ [b]]
  | [], b, i, c, e => by
    have h : i = [] ∧ c = [] := by
      cases i with
      | nil => simpa [spl] using e.symm
      | cons x i => simp [spl] at e
    obtain ⟨rfl, rfl⟩ := h
    by_cases hb : b = 32
    · subst hb; simp [spl]
    · simp [spl, hb]
  | a :: l, b, i, c, e => by
    obtain ⟨h, t, et⟩ : ∃ h t, spl l = h :: t := by
      cases hs : spl l with
      | nil => exact absurd hs (spl_ne l)
      | cons h t => exact ⟨h, t, rfl⟩
    obtain ⟨i', c', ei⟩ : ∃ i' c', spl l = i' ++ [c'] := ⟨(spl l).dropLast, (spl l).getLast (spl_ne l), (List.dropLast_concat_getLast (spl_ne l)).symm⟩
    have ih := spl_snoc l b i' c' ei
    by_cases ha : a = 32
    · subst ha
      rw [spl_blank, ei] at e
      have e1 : i = [] :: i' ∧ c = c' := by
        have : ([] :: i') ++ [c'] = i ++ [c] := by simpa using e
        have h2 := List.append_inj' this rfl
        exact ⟨h2.1.symm, by simpa using h2.2.symm⟩
      obtain ⟨rfl, rfl⟩ := e1
      rw [List.cons_append, spl_blank, ih]
      by_cases hb : b = 32 <;> simp [hb]
    · rw [spl_other ha et] at e
      cases i' with
      | nil =>
        have hc : h = c' ∧ t = [] := by rw [et] at ei; simpa using ei
        obtain ⟨rfl, rfl⟩ := hc
        have hi : i = [] ∧ c = a :: h := by
          cases i with
          | nil => simpa using e.symm
          | cons x i => simp at e
        obtain ⟨rfl, rfl⟩ := hi
        by_cases hb : b = 32
        · rw [if_pos hb] at ih ⊢
          rw [List.cons_append, spl_other ha (by simpa using ih)]
          simp
        · rw [if_neg hb] at ih ⊢
          rw [List.cons_append, spl_other ha (by simpa using ih)]
          simp
      | cons x i' =>
        have hc : h = x ∧ t = i' ++ [c'] := by rw [et] at ei; simpa using ei
        obtain ⟨rfl, rfl⟩ := hc
        have hi : i = (a :: h) :: i' ∧ c = c' := by
          have : ((a :: h) :: i') ++ [c'] = i ++ [c] := by simpa using e
          have h2 := List.append_inj' this rfl
          exact ⟨h2.1.symm, by simpa using h2.2.symm⟩
        obtain ⟨rfl, rfl⟩ := hi
        by_cases hb : b = 32
        · rw [if_pos hb] at ih ⊢
          rw [List.cons_append, spl_other ha (by simpa using ih)]
          simp
        · rw [if_neg hb] at ih ⊢
          rw [List.cons_append, spl_other ha (by simpa using ih)]
          simp

/-- strings.Split's list is this one. -/
theorem index_one (c : UInt8) : ∀ l : List UInt8, Lib.index l [c] = Lib.indexByte l c
  | [] => rfl
  | b :: l => by
    unfold Lib.index Lib.indexByte
    rw [index_one c l]
    by_cases h : b = c
    · simp [h, List.isPrefixOf]
    · have h' : c ≠ b := fun e => h e.symm
      simp [h, h', List.isPrefixOf]
theorem splitK_spl : ∀ (l : List UInt8), Lib.splitK [32] 0 (l.count 32) l = spl l
  | [] => rfl
  | b :: l => by
    by_cases hb : b = 32
    · subst hb
      have e : Lib.index (32 :: l) [32] = 0 := by rw [index_one]; simp [Lib.indexByte]
      rw [List.count_cons_self, spl_blank, ← splitK_spl l, Lib.splitK, e]
      simp
    · rw [List.count_cons_of_ne hb]
      have ih := splitK_spl l
      cases hk : l.count 32 with
      | zero =>
        rw [hk] at ih
        have ih' : spl l = [l] := ih.symm
        rw [spl_other hb ih']
        rfl
      | succ k =>
        rw [hk] at ih
        have hm : Lib.index l [32] ≠ -1 := by
          intro e
          unfold Lib.splitK at ih
          rw [e] at ih
          rw [index_one] at e
          have : l.count 32 = 0 := by
            clear ih hk
            induction l with
            | nil => rfl
            | cons x l ih =>
              unfold Lib.indexByte at e
              by_cases hx : x = 32
              · simp [hx] at e
              · rw [List.count_cons_of_ne hx]
                refine ih ?_
                have hx' : (x == 32) = false := by simpa using hx
                rw [hx'] at e
                simp only [Bool.false_eq_true, if_false] at e
                by_cases h1 : Lib.indexByte l 32 = -1
                · exact h1
                · have h1' : (Lib.indexByte l 32 == -1) = false := by simpa using h1
                  rw [h1'] at e
                  simp only [Bool.false_eq_true, if_false] at e
                  have := Lib.indexByte_ge l 32
                  omega
          omega
        have hge : 0 ≤ Lib.index l [32] := by rw [index_one] at hm ⊢; have := Lib.indexByte_ge l 32; omega
        have e2 : Lib.index (b :: l) [32] = Lib.index l [32] + 1 := by
          rw [index_one, index_one] at *
          have hb' : (b == 32) = false := by simpa using hb
          have hm' : (Lib.indexByte l 32 == -1) = false := by simpa using hm
          rw [Lib.indexByte, hb', hm']
          simp
        have hm' : (Lib.index l [32] == -1) = false := by simpa using hm
        have hm2 : (Lib.index (b :: l) [32] == -1) = false := by rw [e2]; simp; omega
        rw [Lib.splitK, hm'] at ih
        simp only [Bool.false_eq_true, if_false] at ih
        rw [Lib.splitK, hm2]
        simp only [Bool.false_eq_true, if_false]
        rw [spl_other hb ih.symm, e2]
        have e3 : (Lib.index l [32] + 1).toNat = (Lib.index l [32]).toNat + 1 := by omega
        rw [e3]
        simp only [Nat.add_zero, List.take_succ_cons, List.length_cons, List.length_nil]
        rw [show (Lib.index l [32]).toNat + 1 + (0 + 1) = ((Lib.index l [32]).toNat + (0 + 1)) + 1 by omega, List.drop_succ_cons]

/-- The words as texts. -/
def words (s : ByteArray) : List ByteArray := (spl s.data.toList).map fun l => ⟨l.toArray⟩
theorem words_ne (s : ByteArray) : words s ≠ [] := by
  have := spl_ne s.data.toList
  simpa [words] using this
theorem of_data {a b : List ByteArray} (h : a.map (·.data.toList) = b.map (·.data.toList)) : a = b := by
  induction a generalizing b with
  | nil => cases b <;> simp_all
  | cons x a ih =>
    cases b with
    | nil => simp at h
    | cons y b =>
      simp only [List.map_cons, List.cons.injEq] at h
      obtain ⟨⟨x⟩⟩ := x
      obtain ⟨⟨y⟩⟩ := y
      have e : x = y := h.1
      rw [ih h.2, e]
theorem words_data (s : ByteArray) : (words s).map (·.data.toList) = spl s.data.toList := by
  simp [words, List.map_map, Function.comp_def]
theorem split_words (s : ByteArray) : Lib.splitB ⟨#[32]⟩ 0 (Lib.countB s ⟨#[32]⟩) s = words s := by
  apply of_data
  rw [Lib.splitB_data, words_data]
  have e : Lib.countB s ⟨#[32]⟩ = s.data.toList.count 32 := Lib.count_one 32 _
  rw [e]
  exact splitK_spl _
theorem count_words (s : ByteArray) : Lib.countB s ⟨#[32]⟩ + 1 = (words s).length := by
  rw [← split_words, Lib.splitB_all ⟨#[32]⟩ (by decide) 0 _ s rfl]
end Go.Proofs.YtlkpbpecgdphaaaGreatDoor
namespace Go.Proofs.YtlkpbpecgdphaaaGreatDoor

/-- The lines between blanks. -/
def spn : List UInt8 → List (List UInt8)
  | [] => [[]]
  | b :: l => if b = 10 then [] :: spn l else match spn l with
    | [] => [[b]]
    | h :: t => (b :: h) :: t
theorem spn_ne (l : List UInt8) : spn l ≠ [] := by
  cases l with
  | nil => simp [spn]
  | cons b l => unfold spn; split <;> (try split) <;> simp
theorem spn_blank (l : List UInt8) : spn (10 :: l) = [] :: spn l := by simp [spn]
theorem spn_other {b : UInt8} (hb : b ≠ 10) {l h : List UInt8} {t : List (List UInt8)} (e : spn l = h :: t) : spn (b :: l) = (b :: h) :: t := by
  rw [spn, if_neg hb, e]
/-- One byte more. -/
theorem spn_snoc : ∀ (l : List UInt8) (b : UInt8) (i : List (List UInt8)) (c : List UInt8), spn l = i ++ [c] → spn (l ++ [b]) = if b = 10 then i ++ [c] ++ [[]] else i ++ [c ++ [b]]
  | [], b, i, c, e => by
    have h : i = [] ∧ c = [] := by
      cases i with
      | nil => simpa [spn] using e.symm
      | cons x i => simp [spn] at e
    obtain ⟨rfl, rfl⟩ := h
    by_cases hb : b = 10
    · subst hb; simp [spn]
    · simp [spn, hb]
  | a :: l, b, i, c, e => by
    obtain ⟨h, t, et⟩ : ∃ h t, spn l = h :: t := by
      cases hs : spn l with
      | nil => exact absurd hs (spn_ne l)
      | cons h t => exact ⟨h, t, rfl⟩
    obtain ⟨i', c', ei⟩ : ∃ i' c', spn l = i' ++ [c'] := ⟨(spn l).dropLast, (spn l).getLast (spn_ne l), (List.dropLast_concat_getLast (spn_ne l)).symm⟩
    have ih := spn_snoc l b i' c' ei
    by_cases ha : a = 10
    · subst ha
      rw [spn_blank, ei] at e
      have e1 : i = [] :: i' ∧ c = c' := by
        have : ([] :: i') ++ [c'] = i ++ [c] := by simpa using e
        have h2 := List.append_inj' this rfl
        exact ⟨h2.1.symm, by simpa using h2.2.symm⟩
      obtain ⟨rfl, rfl⟩ := e1
      rw [List.cons_append, spn_blank, ih]
      by_cases hb : b = 10 <;> simp [hb]
    · rw [spn_other ha et] at e
      cases i' with
      | nil =>
        have hc : h = c' ∧ t = [] := by rw [et] at ei; simpa using ei
        obtain ⟨rfl, rfl⟩ := hc
        have hi : i = [] ∧ c = a :: h := by
          cases i with
          | nil => simpa using e.symm
          | cons x i => simp at e
        obtain ⟨rfl, rfl⟩ := hi
        by_cases hb : b = 10
        · rw [if_pos hb] at ih ⊢
          rw [List.cons_append, spn_other ha (by simpa using ih)]
          simp
        · rw [if_neg hb] at ih ⊢
          rw [List.cons_append, spn_other ha (by simpa using ih)]
          simp
      | cons x i' =>
        have hc : h = x ∧ t = i' ++ [c'] := by rw [et] at ei; simpa using ei
        obtain ⟨rfl, rfl⟩ := hc
        have hi : i = (a :: h) :: i' ∧ c = c' := by
          have : ((a :: h) :: i') ++ [c'] = i ++ [c] := by simpa using e
          have h2 := List.append_inj' this rfl
          exact ⟨h2.1.symm, by simpa using h2.2.symm⟩
        obtain ⟨rfl, rfl⟩ := hi
        by_cases hb : b = 10
        · rw [if_pos hb] at ih ⊢
          rw [List.cons_append, spn_other ha (by simpa using ih)]
          simp
        · rw [if_neg hb] at ih ⊢
          rw [List.cons_append, spn_other ha (by simpa using ih)]
          simp

/-- strings.Split's list is this one. -/
theorem splitK_spn : ∀ (l : List UInt8), Lib.splitK [10] 0 (l.count 10) l = spn l
  | [] => rfl
  | b :: l => by
    by_cases hb : b = 10
    · subst hb
      have e : Lib.index (10 :: l) [10] = 0 := by rw [index_one]; simp [Lib.indexByte]
      rw [List.count_cons_self, spn_blank, ← splitK_spn l, Lib.splitK, e]
      simp
    · rw [List.count_cons_of_ne hb]
      have ih := splitK_spn l
      cases hk : l.count 10 with
      | zero =>
        rw [hk] at ih
        have ih' : spn l = [l] := ih.symm
        rw [spn_other hb ih']
        rfl
      | succ k =>
        rw [hk] at ih
        have hm : Lib.index l [10] ≠ -1 := by
          intro e
          unfold Lib.splitK at ih
          rw [e] at ih
          rw [index_one] at e
          have : l.count 10 = 0 := by
            clear ih hk
            induction l with
            | nil => rfl
            | cons x l ih =>
              unfold Lib.indexByte at e
              by_cases hx : x = 10
              · simp [hx] at e
              · rw [List.count_cons_of_ne hx]
                refine ih ?_
                have hx' : (x == 10) = false := by simpa using hx
                rw [hx'] at e
                simp only [Bool.false_eq_true, if_false] at e
                by_cases h1 : Lib.indexByte l 10 = -1
                · exact h1
                · have h1' : (Lib.indexByte l 10 == -1) = false := by simpa using h1
                  rw [h1'] at e
                  simp only [Bool.false_eq_true, if_false] at e
                  have := Lib.indexByte_ge l 10
                  omega
          omega
        have hge : 0 ≤ Lib.index l [10] := by rw [index_one] at hm ⊢; have := Lib.indexByte_ge l 10; omega
        have e2 : Lib.index (b :: l) [10] = Lib.index l [10] + 1 := by
          rw [index_one, index_one] at *
          have hb' : (b == 10) = false := by simpa using hb
          have hm' : (Lib.indexByte l 10 == -1) = false := by simpa using hm
          rw [Lib.indexByte, hb', hm']
          simp
        have hm' : (Lib.index l [10] == -1) = false := by simpa using hm
        have hm2 : (Lib.index (b :: l) [10] == -1) = false := by rw [e2]; simp; omega
        rw [Lib.splitK, hm'] at ih
        simp only [Bool.false_eq_true, if_false] at ih
        rw [Lib.splitK, hm2]
        simp only [Bool.false_eq_true, if_false]
        rw [spn_other hb ih.symm, e2]
        have e3 : (Lib.index l [10] + 1).toNat = (Lib.index l [10]).toNat + 1 := by omega
        rw [e3]
        simp only [Nat.add_zero, List.take_succ_cons, List.length_cons, List.length_nil]
        rw [show (Lib.index l [10]).toNat + 1 + (0 + 1) = ((Lib.index l [10]).toNat + (0 + 1)) + 1 by omega, List.drop_succ_cons]

/-- The lines as texts. -/
def lines (s : ByteArray) : List ByteArray := (spn s.data.toList).map fun l => ⟨l.toArray⟩
theorem lines_ne (s : ByteArray) : lines s ≠ [] := by
  have := spn_ne s.data.toList
  simpa [lines] using this
theorem lines_data (s : ByteArray) : (lines s).map (·.data.toList) = spn s.data.toList := by
  simp [lines, List.map_map, Function.comp_def]
theorem split_lines (s : ByteArray) : Lib.splitB ⟨#[10]⟩ 0 (Lib.countB s ⟨#[10]⟩) s = lines s := by
  apply of_data
  rw [Lib.splitB_data, lines_data]
  have e : Lib.countB s ⟨#[10]⟩ = s.data.toList.count 10 := Lib.count_one 10 _
  rw [e]
  exact splitK_spn _
theorem count_lines (s : ByteArray) : Lib.countB s ⟨#[10]⟩ + 1 = (lines s).length := by
  rw [← split_lines, Lib.splitB_all ⟨#[10]⟩ (by decide) 0 _ s rfl]
end Go.Proofs.YtlkpbpecgdphaaaGreatDoor
namespace Go.Proofs.YtlkpbpecgdphaaaGreatDoor
open Go

abbrev Ru := List ByteArray × List ByteArray × List ByteArray
structure Mk where
  vars : List F
  rules : List Ru
  phony : List ByteArray
def mk0 : Mk := ⟨[], [], []⟩
def wordsR (l : Bs) : List ByteArray := (fieldsB l).map ba
def patB (s : ByteArray) : Bool := decide (37 ∈ s.data.toList)
/-- The first '%' by a letter. -/
def onceR (s : ByteArray) : ByteArray := if (Lib.cut s.data.toList [37]).2.2 = true then ba ((Lib.cut s.data.toList [37]).1 ++ 97 :: (Lib.cut s.data.toList [37]).2.1) else s
/-- May the i-th word stand, behind those before it? -/
def wordOk (all : List ByteArray) (pat : Bool) (i : Nat) (x : ByteArray) : Bool := nameB (onceR x) && !inT (all.take i) x && !(patB x && !pat)
def shapedR (T N : List ByteArray) : Bool := !(T.any patB && decide (1 < T.length)) && (List.range (T ++ N).length).all fun i => wordOk (T ++ N) (T.any patB) i ((T ++ N)[i]?.getD ⟨#[]⟩)
def varR (m : Mk) (n t : ByteArray) : Nat × Mk := if varOk n = false then (3, m) else if 6 ≤ m.vars.length then (2, m) else (0, { m with vars := m.vars ++ [(n, t)] })
def phonyR (m : Mk) (n : ByteArray) : Nat × Mk := if nameB n = false ∨ inT m.phony n = true then (3, m) else (0, { m with phony := m.phony ++ [n] })
/-- One command more for the last rule. -/
def moreCmd : List Ru → ByteArray → List Ru
  | [], _ => []
  | [r], c => [(r.1, r.2.1, r.2.2 ++ [c])]
  | r :: s :: l, c => r :: moreCmd (s :: l) c
def lastCmds : List Ru → Nat
  | [] => 0
  | [r] => r.2.2.length
  | _ :: s :: l => lastCmds (s :: l)
def cmdR (m : Mk) (s : ByteArray) : Nat × Mk :=
  if m.rules.length = 0 then (4, m) else if (expR m.vars 5 s.data.toList).1 ≠ 0 then ((expR m.vars 5 s.data.toList).1, m)
  else if 3 ≤ lastCmds m.rules ∨ 28 < (expR m.vars 5 s.data.toList).2.length then (2, m) else (0, { m with rules := moreCmd m.rules (ba (expR m.vars 5 s.data.toList).2) })
def headR (m : Mk) (t : Bs) : Nat × Mk :=
  if (Lib.cut t [58]).2.2 = false ∨ (wordsR (Lib.cut t [58]).1).length = 0 then (4, m)
  else if 2 < (wordsR (Lib.cut t [58]).1).length ∨ 3 < (wordsR (Lib.cut t [58]).2.1).length ∨ 10 ≤ m.rules.length then (2, m)
  else if shapedR (wordsR (Lib.cut t [58]).1) (wordsR (Lib.cut t [58]).2.1) = false then (3, m)
  else (0, { m with rules := m.rules ++ [(wordsR (Lib.cut t [58]).1, wordsR (Lib.cut t [58]).2.1, [])] })
def ruleR (m : Mk) (s : ByteArray) : Nat × Mk := if (expR m.vars 5 s.data.toList).1 ≠ 0 then ((expR m.vars 5 s.data.toList).1, m) else headR m (expR m.vars 5 s.data.toList).2
def noteB (s : ByteArray) : Bool := match s.data.toList with
  | [] => true
  | b :: _ => decide (b = 35)
def lineR (m : Mk) (s : ByteArray) : Nat × Mk :=
  if noteB s = true then (0, m)
  else if Lib.hasPrefix s.data.toList [9] = true then cmdR m (s.extract 1 s.size)
  else if Lib.hasPrefix s.data.toList [112, 104, 111, 110, 121, 32] = true then phonyR m (s.extract 6 s.size)
  else if (Lib.cut s.data.toList [32, 61, 32]).2.2 = true then varR m (ba (Lib.cut s.data.toList [32, 61, 32]).1) (ba (Lib.cut s.data.toList [32, 61, 32]).2.1)
  else ruleR m s
def linesR : Mk → List ByteArray → Nat × Mk
  | m, [] => (0, m)
  | m, s :: l => if (lineR m s).1 = 0 then linesR (lineR m s).2 l else ((lineR m s).1, (lineR m s).2)
/-- Is the i-th one there, and phony? -/
def inAt (phony T : List ByteArray) (i : Nat) : Bool := match T[i]? with
  | some t => inT phony t
  | none => false
/-- Does a rule agree with the phony names and with what earlier rules make? -/
def agreesR (phony made : List ByteArray) (r : Ru) : Bool := r.1.all (fun t => !inT made t) && (!inAt phony r.1 1 && (inAt phony r.1 0 == decide (r.2.2.length = 0)))
def checkGo (phony : List ByteArray) : List ByteArray → List Ru → Bool × List ByteArray
  | made, [] => (true, made)
  | made, r :: l => if agreesR phony made r = true then checkGo phony (made ++ r.1) l else (false, made)
def checkR (m : Mk) : Bool := (checkGo m.phony [] m.rules).1 && m.phony.all fun n => inT (checkGo m.phony [] m.rules).2 n
def parseR (s : ByteArray) : Nat × Mk :=
  if 600 < s.size then (2, mk0) else if (linesR mk0 (lines s)).1 ≠ 0 then ((linesR mk0 (lines s)).1, mk0) else if checkR (linesR mk0 (lines s)).2 = true then (0, (linesR mk0 (lines s)).2) else (3, mk0)

theorem linesR_append (m : Mk) (a b : List ByteArray) : linesR m (a ++ b) = if (linesR m a).1 = 0 then linesR (linesR m a).2 b else linesR m a := by
  induction a generalizing m with
  | nil => simp [linesR]
  | cons s a ih =>
    rw [List.cons_append, linesR, linesR]
    split
    · exact ih _
    · rfl
theorem lineR_note (m : Mk) (s : ByteArray) (h : noteB s = true) : lineR m s = (0, m) := by unfold lineR; rw [if_pos h]
theorem linesR_notes (m : Mk) (a b : List ByteArray) (l : List ByteArray) (h : ∀ s ∈ l, noteB s = true) : linesR m (a ++ l ++ b) = linesR m (a ++ b) := by
  have hl : ∀ m, linesR m l = (0, m) := by
    intro m
    induction l with
    | nil => rfl
    | cons s l ih =>
      rw [linesR, lineR_note m s (h s (by simp)), if_pos rfl]
      exact ih (fun x hx => h x (by simp [hx]))
  rw [List.append_assoc, linesR_append m a, linesR_append m a]
  split
  · rw [linesR_append, hl, if_pos rfl]
  · rfl
/-- How far a description may have come when k lines have been read. -/
structure Sane (m : Mk) (k : Nat) : Prop where
  vars : m.vars.length ≤ k
  rules : m.rules.length ≤ k
  phony : m.phony.length ≤ k
  texts : ∀ v ∈ m.vars, v.2.size ≤ 600
  cmds : ∀ r ∈ m.rules, r.1.length ≤ 2 ∧ r.2.1.length ≤ 3 ∧ r.2.2.length ≤ 3
  names : ∀ x ∈ m.phony, x.size ≤ 1000
  words : ∀ r ∈ m.rules, ∀ x ∈ r.1, x.size ≤ 1000
theorem Sane.mono {m : Mk} {k j : Nat} (h : Sane m k) (hj : k ≤ j) : Sane m j := ⟨Nat.le_trans h.vars hj, Nat.le_trans h.rules hj, Nat.le_trans h.phony hj, h.texts, h.cmds, h.names, h.words⟩
theorem sane0 : Sane mk0 0 := ⟨Nat.le_refl _, Nat.le_refl _, Nat.le_refl _, by simp [mk0], by simp [mk0], by simp [mk0], by simp [mk0]⟩
theorem moreCmd_len (l : List Ru) (c : ByteArray) : (moreCmd l c).length = l.length := by
  fun_induction moreCmd l c <;> simp_all
theorem moreCmd_mem {l : List Ru} {c : ByteArray} (hl : lastCmds l < 3) : ∀ r ∈ moreCmd l c, (r ∈ l) ∨ (∃ q ∈ l, r.1 = q.1 ∧ r.2.1 = q.2.1 ∧ r.2.2.length ≤ 3) := by
  fun_induction moreCmd l c with
  | case1 => simp
  | case2 r c =>
    intro x hx
    simp at hx
    subst hx
    simp only [lastCmds] at hl
    exact .inr ⟨r, by simp, rfl, rfl, by simp; omega⟩
  | case3 r s l c ih =>
    intro x hx
    rcases List.mem_cons.1 hx with rfl | hx
    · exact .inl (by simp)
    · rcases ih (by simpa [lastCmds] using hl) x hx with h | ⟨q, hq, h⟩
      · exact .inl (by simp at h ⊢; exact .inr h)
      · exact .inr ⟨q, by simp at hq ⊢; exact .inr hq, h⟩
theorem cut_fst_len (s p : Bs) : (Lib.cut s p).1.length ≤ s.length ∧ (Lib.cut s p).2.1.length ≤ s.length := by
  cases h : (Lib.cut s p).2.2 with
  | true => have := cut_short h; omega
  | false => rw [(cut_miss h).2]; simp
theorem wordsR_size {l : Bs} {x : ByteArray} (h : x ∈ wordsR l) : x.size ≤ l.length := by
  unfold wordsR at h
  obtain ⟨y, hy, rfl⟩ := List.mem_map.1 h
  rw [ba_size]
  have := fldGo_size [] l y hy
  simpa using this
theorem Sane.line {m : Mk} {k : Nat} (h : Sane m k) (s : ByteArray) (hs : s.size ≤ 600) : Sane (lineR m s).2 (k + 1) := by
  have h1 := h.mono (Nat.le_succ k)
  unfold lineR
  split
  · exact h1
  · split
    · unfold cmdR
      split
      · exact h1
      · split
        · exact h1
        · split
          · exact h1
          · rename_i hc
            refine ⟨h1.vars, by simp only [moreCmd_len]; exact h1.rules, h1.phony, h1.texts, fun r hr => ?_, ?_, ?_⟩
            · rcases moreCmd_mem (by omega) r hr with hr | ⟨q, hq, e1, e2, e3⟩
              · exact h1.cmds r hr
              · have := h1.cmds q hq
                rw [e1, e2]
                exact ⟨this.1, this.2.1, e3⟩
            · exact h1.names
            · intro r hr
              rcases moreCmd_mem (by omega) r hr with hr | ⟨q, hq, e1, _⟩
              · exact h1.words r hr
              · rw [e1]; exact h1.words q hq
    · split
      · unfold phonyR
        split
        · exact h1
        · refine ⟨h1.vars, h1.rules, by have := h.phony; simp; omega, h1.texts, h1.cmds, fun x hx => ?_, h1.words⟩
          rcases List.mem_append.1 hx with hx | hx
          · exact h1.names x hx
          · simp at hx
            subst hx
            rw [ByteArray.size_extract]
            omega
      · split
        · unfold varR
          split
          · exact h1
          · split
            · exact h1
            · refine ⟨by have := h.vars; simp; omega, h1.rules, h1.phony, fun v hv => ?_, h1.cmds, h1.names, h1.words⟩
              rcases List.mem_append.1 hv with hv | hv
              · exact h1.texts v hv
              · simp at hv
                subst hv
                have := (cut_fst_len s.data.toList [32, 61, 32]).2
                rw [ba_size]
                simp at this
                omega
        · unfold ruleR
          split
          · exact h1
          · rename_i he
            have he0 : (expR m.vars 5 s.data.toList).1 = 0 := by simpa using he
            have hel : (expR m.vars 5 s.data.toList).2.length ≤ 600 := expL_len _ _ _ _ (Prod.ext he0 rfl)
            unfold headR
            split
            · exact h1
            · split
              · exact h1
              · rename_i hc
                split
                · exact h1
                · refine ⟨h1.vars, by have := h.rules; simp; omega, h1.phony, h1.texts, fun r hr => ?_, h1.names, fun r hr => ?_⟩
                  · rcases List.mem_append.1 hr with hr | hr
                    · exact h1.cmds r hr
                    · simp at hr
                      subst hr
                      exact ⟨by simp only; omega, by simp only; omega, by simp⟩
                  · rcases List.mem_append.1 hr with hr | hr
                    · exact h1.words r hr
                    · simp at hr
                      subst hr
                      intro x hx
                      have h3 := wordsR_size hx
                      have h4 := (cut_fst_len (expR m.vars 5 s.data.toList).2 [58]).1
                      omega
end Go.Proofs.YtlkpbpecgdphaaaGreatDoor
