/-
  PLAIN WORDS (no program): a build description; what a line makes of it; what a text comes to; comments change nothing.
-/
import Derived.Test.YtkkoflbeggdblaaDoorFields
import Derived.Test.YtkkoflbeggdblaaDoorName
import Derived.Test.YtkkoflbeggdblaaDoorTexts
import Derived.Test.YtkkoflbeggdblaaDoorSpn
namespace Go.Proofs.YtkkoflbeggdblaaDoor
open Go

abbrev Ru := List ByteArray × List ByteArray × List ByteArray
structure Mk where
  vars : List F
  rules : List Ru
  phony : List ByteArray
def mk0 : Mk := ⟨[], [], []⟩
def wordsR (l : Bs) : List ByteArray := (fieldsB l).map ba
def patB (s : ByteArray) : Bool := decide (37 ∈ s.data.toList)
/-- The first '%' by a letter. -/
def onceR (s : ByteArray) : ByteArray := if (Lib.cut s.data.toList [37]).2.2 = true then ba ((Lib.cut s.data.toList [37]).1 ++ 97 :: (Lib.cut s.data.toList [37]).2.1) else s
/-- May the i-th word stand, behind those before it? -/
def wordOk (all : List ByteArray) (pat : Bool) (i : Nat) (x : ByteArray) : Bool := nameB (onceR x) && !inT (all.take i) x && !(patB x && !pat)
def shapedR (T N : List ByteArray) : Bool := !(T.any patB && decide (1 < T.length)) && (List.range (T ++ N).length).all fun i => wordOk (T ++ N) (T.any patB) i ((T ++ N)[i]?.getD ⟨#[]⟩)
def varR (m : Mk) (n t : ByteArray) : Nat × Mk := if varOk n = false then (3, m) else if 6 ≤ m.vars.length then (2, m) else (0, { m with vars := m.vars ++ [(n, t)] })
def phonyR (m : Mk) (n : ByteArray) : Nat × Mk := if nameB n = false ∨ inT m.phony n = true then (3, m) else (0, { m with phony := m.phony ++ [n] })
/-- One command more for the last rule. -/
def moreCmd : List Ru → ByteArray → List Ru
  | [], _ => []
  | [r], c => [(r.1, r.2.1, r.2.2 ++ [c])]
  | r :: s :: l, c => r :: moreCmd (s :: l) c
def lastCmds : List Ru → Nat
  | [] => 0
  | [r] => r.2.2.length
  | _ :: s :: l => lastCmds (s :: l)
def cmdR (m : Mk) (s : ByteArray) : Nat × Mk :=
  if m.rules.length = 0 then (4, m) else if (expR m.vars 5 s.data.toList).1 ≠ 0 then ((expR m.vars 5 s.data.toList).1, m)
  else if 3 ≤ lastCmds m.rules ∨ 28 < (expR m.vars 5 s.data.toList).2.length then (2, m) else (0, { m with rules := moreCmd m.rules (ba (expR m.vars 5 s.data.toList).2) })
def headR (m : Mk) (t : Bs) : Nat × Mk :=
  if (Lib.cut t [58]).2.2 = false ∨ (wordsR (Lib.cut t [58]).1).length = 0 then (4, m)
  else if 2 < (wordsR (Lib.cut t [58]).1).length ∨ 3 < (wordsR (Lib.cut t [58]).2.1).length ∨ 10 ≤ m.rules.length then (2, m)
  else if shapedR (wordsR (Lib.cut t [58]).1) (wordsR (Lib.cut t [58]).2.1) = false then (3, m)
  else (0, { m with rules := m.rules ++ [(wordsR (Lib.cut t [58]).1, wordsR (Lib.cut t [58]).2.1, [])] })
def ruleR (m : Mk) (s : ByteArray) : Nat × Mk := if (expR m.vars 5 s.data.toList).1 ≠ 0 then ((expR m.vars 5 s.data.toList).1, m) else headR m (expR m.vars 5 s.data.toList).2
def noteB (s : ByteArray) : Bool := match s.data.toList with
  | [] => true
  | b :: _ => decide (b = 35)
def lineR (m : Mk) (s : ByteArray) : Nat × Mk :=
  if noteB s = true then (0, m)
  else if Lib.hasPrefix s.data.toList [9] = true then cmdR m (s.extract 1 s.size)
  else if Lib.hasPrefix s.data.toList [112, 104, 111, 110, 121, 32] = true then phonyR m (s.extract 6 s.size)
  else if (Lib.cut s.data.toList [32, 61, 32]).2.2 = true then varR m (ba (Lib.cut s.data.toList [32, 61, 32]).1) (ba (Lib.cut s.data.toList [32, 61, 32]).2.1)
  else ruleR m s
def linesR : Mk → List ByteArray → Nat × Mk
  | m, [] => (0, m)
  | m, s :: l => if (lineR m s).1 = 0 then linesR (lineR m s).2 l else ((lineR m s).1, (lineR m s).2)
/-- Is the i-th one there, and phony? -/
def inAt (phony T : List ByteArray) (i : Nat) : Bool := match T[i]? with
  | some t => inT phony t
  | none => false
/-- Does a rule agree with the phony names and with what earlier rules make? -/
def agreesR (phony made : List ByteArray) (r : Ru) : Bool := r.1.all (fun t => !inT made t) && (!inAt phony r.1 1 && (inAt phony r.1 0 == decide (r.2.2.length = 0)))
def checkGo (phony : List ByteArray) : List ByteArray → List Ru → Bool × List ByteArray
  | made, [] => (true, made)
  | made, r :: l => if agreesR phony made r = true then checkGo phony (made ++ r.1) l else (false, made)
def checkR (m : Mk) : Bool := (checkGo m.phony [] m.rules).1 && m.phony.all fun n => inT (checkGo m.phony [] m.rules).2 n
def parseR (s : ByteArray) : Nat × Mk :=
  if 600 < s.size then (2, mk0) else if (linesR mk0 (lines s)).1 ≠ 0 then ((linesR mk0 (lines s)).1, mk0) else if checkR (linesR mk0 (lines s)).2 = true then (0, (linesR mk0 (lines s)).2) else (3, mk0)

theorem linesR_append (m : Mk) (a b : List ByteArray) : linesR m (a ++ b) = if (linesR m a).1 = 0 then linesR (linesR m a).2 b else linesR m a := by
  induction a generalizing m with
  | nil => simp [linesR]
  | cons s a ih =>
    rw [List.cons_append, linesR, linesR]
    split
    · exact ih _
    · rfl
theorem lineR_note (m : Mk) (s : ByteArray) (h : noteB s = true) : lineR m s = (0, m) := by unfold lineR; rw [if_pos h]
theorem linesR_notes (m : Mk) (a b : List ByteArray) (l : List ByteArray) (h : ∀ s ∈ l, noteB s = true) : linesR m (a ++ l ++ b) = linesR m (a ++ b) := by
  have hl : ∀ m, linesR m l = (0, m) := by
    intro m
    induction l with
    | nil => rfl
    | cons s l ih =>
      rw [linesR, lineR_note m s (h s (by simp)), if_pos rfl]
      exact ih (fun x hx => h x (by simp [hx]))
  rw [List.append_assoc, linesR_append m a, linesR_append m a]
  split
  · rw [linesR_append, hl, if_pos rfl]
  · rfl
/-- How far a description may have come when k lines have been read. -/
structure Sane (m : Mk) (k : Nat) : Prop where
  vars : m.vars.length ≤ k
  rules : m.rules.length ≤ k
  phony : m.phony.length ≤ k
  texts : ∀ v ∈ m.vars, v.2.size ≤ 600
  cmds : ∀ r ∈ m.rules, r.1.length ≤ 2 ∧ r.2.1.length ≤ 3 ∧ r.2.2.length ≤ 3
  names : ∀ x ∈ m.phony, x.size ≤ 1000
  words : ∀ r ∈ m.rules, ∀ x ∈ r.1, x.size ≤ 1000
theorem Sane.mono {m : Mk} {k j : Nat} (h : Sane m k) (hj : k ≤ j) : Sane m j := ⟨Nat.le_trans h.vars hj, Nat.le_trans h.rules hj, Nat.le_trans h.phony hj, h.texts, h.cmds, h.names, h.words⟩
theorem sane0 : Sane mk0 0 := ⟨Nat.le_refl _, Nat.le_refl _, Nat.le_refl _, by simp [mk0], by simp [mk0], by simp [mk0], by simp [mk0]⟩
theorem moreCmd_len (l : List Ru) (c : ByteArray) : (moreCmd l c).length = l.length := by
  fun_induction moreCmd l c <;> simp_all
theorem moreCmd_mem {l : List Ru} {c : ByteArray} (hl : lastCmds l < 3) : ∀ r ∈ moreCmd l c, (r ∈ l) ∨ (∃ q ∈ l, r.1 = q.1 ∧ r.2.1 = q.2.1 ∧ r.2.2.length ≤ 3) := by
  fun_induction moreCmd l c with
  | case1 => simp
  | case2 r c =>
    intro x hx
    simp at hx
    subst hx
    simp only [lastCmds] at hl
    exact .inr ⟨r, by simp, rfl, rfl, by simp; omega⟩
  | case3 r s l c ih =>
    intro x hx
    rcases List.mem_cons.1 hx with rfl | hx
    · exact .inl (by simp)
    · rcases ih (by simpa [lastCmds] using hl) x hx with h | ⟨q, hq, h⟩
      · exact .inl (by simp at h ⊢; exact .inr h)
      · exact .inr ⟨q, by simp at hq ⊢; exact .inr hq, h⟩
theorem cut_fst_len (s p : Bs) : (Lib.cut s p).1.length ≤ s.length ∧ (Lib.cut s p).2.1.length ≤ s.length := by
  cases h : (Lib.cut s p).2.2 with
  | true => have := cut_short h; omega
  | false => rw [(cut_miss h).2]; simp
theorem wordsR_size {l : Bs} {x : ByteArray} (h : x ∈ wordsR l) : x.size ≤ l.length := by
  unfold wordsR at h
  obtain ⟨y, hy, rfl⟩ := List.mem_map.1 h
  rw [ba_size]
  have := fldGo_size [] l y hy
  simpa using this
theorem Sane.line {m : Mk} {k : Nat} (h : Sane m k) (s : ByteArray) (hs : s.size ≤ 600) : Sane (lineR m s).2 (k + 1) := by
  have h1 := h.mono (Nat.le_succ k)
  unfold lineR
  split
  · exact h1
  · split
    · unfold cmdR
      split
      · exact h1
      · split
        · exact h1
        · split
          · exact h1
          · rename_i hc
            refine ⟨h1.vars, by simp only [moreCmd_len]; exact h1.rules, h1.phony, h1.texts, fun r hr => ?_, ?_, ?_⟩
            · rcases moreCmd_mem (by omega) r hr with hr | ⟨q, hq, e1, e2, e3⟩
              · exact h1.cmds r hr
              · have := h1.cmds q hq
                rw [e1, e2]
                exact ⟨this.1, this.2.1, e3⟩
            · exact h1.names
            · intro r hr
              rcases moreCmd_mem (by omega) r hr with hr | ⟨q, hq, e1, _⟩
              · exact h1.words r hr
              · rw [e1]; exact h1.words q hq
    · split
      · unfold phonyR
        split
        · exact h1
        · refine ⟨h1.vars, h1.rules, by have := h.phony; simp; omega, h1.texts, h1.cmds, fun x hx => ?_, h1.words⟩
          rcases List.mem_append.1 hx with hx | hx
          · exact h1.names x hx
          · simp at hx
            subst hx
            rw [ByteArray.size_extract]
            omega
      · split
        · unfold varR
          split
          · exact h1
          · split
            · exact h1
            · refine ⟨by have := h.vars; simp; omega, h1.rules, h1.phony, fun v hv => ?_, h1.cmds, h1.names, h1.words⟩
              rcases List.mem_append.1 hv with hv | hv
              · exact h1.texts v hv
              · simp at hv
                subst hv
                have := (cut_fst_len s.data.toList [32, 61, 32]).2
                rw [ba_size]
                simp at this
                omega
        · unfold ruleR
          split
          · exact h1
          · rename_i he
            have he0 : (expR m.vars 5 s.data.toList).1 = 0 := by simpa using he
            have hel : (expR m.vars 5 s.data.toList).2.length ≤ 600 := expL_len _ _ _ _ (Prod.ext he0 rfl)
            unfold headR
            split
            · exact h1
            · split
              · exact h1
              · rename_i hc
                split
                · exact h1
                · refine ⟨h1.vars, by have := h.rules; simp; omega, h1.phony, h1.texts, fun r hr => ?_, h1.names, fun r hr => ?_⟩
                  · rcases List.mem_append.1 hr with hr | hr
                    · exact h1.cmds r hr
                    · simp at hr
                      subst hr
                      exact ⟨by simp only; omega, by simp only; omega, by simp⟩
                  · rcases List.mem_append.1 hr with hr | hr
                    · exact h1.words r hr
                    · simp at hr
                      subst hr
                      intro x hx
                      have h3 := wordsR_size hx
                      have h4 := (cut_fst_len (expR m.vars 5 s.data.toList).2 [58]).1
                      omega
end Go.Proofs.YtkkoflbeggdblaaDoor
