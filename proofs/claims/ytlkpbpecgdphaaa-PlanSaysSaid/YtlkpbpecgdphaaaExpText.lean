/-
  THE WALK OF expand.Text: what a text comes to (expR), for texts of at most 1000 bytes and variables of at most 1000 bytes.
-/
import Derived.Test.YtlkpbpecgdphaaaFields
import Derived.Test.YtlkpbpecgdphaaaSpn
import Derived.Test.YtlkpbpecgdphaaaTexts
import Derived.RangeFuncNested
import Derived.RangeFuncBound
import Derived.RangeFuncCalls
import Derived.RangeFuncLeaves
import Derived.Shelf.Abstract
import Derived.WalkKit
import Derived.OwnWalkIn
import Derived.TacticsInMore
import Derived.LoopNIn
import Derived.LoopIn
import Derived.Test.YtlkpbpecgdphaaaWr
import Derived.Test.YtlkpbpecgdphaaaLight
import Derived.Test.YtlkpbpecgdphaaaRows
import Derived.WalkSpells
import Derived.WalkLawsBesides
import Derived.Deep.QuietTactic
import Derived.BigQuiet
import Derived.Lib.Hide
import Derived.WideLaws
import Derived.Maps.OwnSet
import Derived.Maps.StringElems
import Derived.DeepKeys5
import Derived.Carry
import Derived.Deep.RegionHeld3
namespace Go.Proofs.Ytlkpbpecgdphaaa
open Go

abbrev Ru := List ByteArray × List ByteArray × List ByteArray
structure Mk where
  vars : List F
  rules : List Ru
  phony : List ByteArray
def mk0 : Mk := ⟨[], [], []⟩
def wordsR (l : Bs) : List ByteArray := (fieldsB l).map ba
def patB (s : ByteArray) : Bool := decide (37 ∈ s.data.toList)
/-- The first '%' by a letter. -/
def onceR (s : ByteArray) : ByteArray := if (Lib.cut s.data.toList [37]).2.2 = true then ba ((Lib.cut s.data.toList [37]).1 ++ 97 :: (Lib.cut s.data.toList [37]).2.1) else s
/-- May the i-th word stand, behind those before it? -/
def wordOk (all : List ByteArray) (pat : Bool) (i : Nat) (x : ByteArray) : Bool := nameB (onceR x) && !inT (all.take i) x && !(patB x && !pat)
def shapedR (T N : List ByteArray) : Bool := !(T.any patB && decide (1 < T.length)) && (List.range (T ++ N).length).all fun i => wordOk (T ++ N) (T.any patB) i ((T ++ N)[i]?.getD ⟨#[]⟩)
def varR (m : Mk) (n t : ByteArray) : Nat × Mk := if varOk n = false then (3, m) else if 6 ≤ m.vars.length then (2, m) else (0, { m with vars := m.vars ++ [(n, t)] })
def phonyR (m : Mk) (n : ByteArray) : Nat × Mk := if nameB n = false ∨ inT m.phony n = true then (3, m) else (0, { m with phony := m.phony ++ [n] })
/-- One command more for the last rule. -/
def moreCmd : List Ru → ByteArray → List Ru
  | [], _ => []
  | [r], c => [(r.1, r.2.1, r.2.2 ++ [c])]
  | r :: s :: l, c => r :: moreCmd (s :: l) c
def lastCmds : List Ru → Nat
  | [] => 0
  | [r] => r.2.2.length
  | _ :: s :: l => lastCmds (s :: l)
def cmdR (m : Mk) (s : ByteArray) : Nat × Mk :=
  if m.rules.length = 0 then (4, m) else if (expR m.vars 5 s.data.toList).1 ≠ 0 then ((expR m.vars 5 s.data.toList).1, m)
  else if 3 ≤ lastCmds m.rules ∨ 28 < (expR m.vars 5 s.data.toList).2.length then (2, m) else (0, { m with rules := moreCmd m.rules (ba (expR m.vars 5 s.data.toList).2) })
def headR (m : Mk) (t : Bs) : Nat × Mk :=
  if (Lib.cut t [58]).2.2 = false ∨ (wordsR (Lib.cut t [58]).1).length = 0 then (4, m)
  else if 2 < (wordsR (Lib.cut t [58]).1).length ∨ 3 < (wordsR (Lib.cut t [58]).2.1).length ∨ 10 ≤ m.rules.length then (2, m)
  else if shapedR (wordsR (Lib.cut t [58]).1) (wordsR (Lib.cut t [58]).2.1) = false then (3, m)
  else (0, { m with rules := m.rules ++ [(wordsR (Lib.cut t [58]).1, wordsR (Lib.cut t [58]).2.1, [])] })
def ruleR (m : Mk) (s : ByteArray) : Nat × Mk := if (expR m.vars 5 s.data.toList).1 ≠ 0 then ((expR m.vars 5 s.data.toList).1, m) else headR m (expR m.vars 5 s.data.toList).2
def noteB (s : ByteArray) : Bool := match s.data.toList with
  | [] => true
  | b :: _ => decide (b = 35)
def lineR (m : Mk) (s : ByteArray) : Nat × Mk :=
  if noteB s = true then (0, m)
  else if Lib.hasPrefix s.data.toList [9] = true then cmdR m (s.extract 1 s.size)
  else if Lib.hasPrefix s.data.toList [112, 104, 111, 110, 121, 32] = true then phonyR m (s.extract 6 s.size)
  else if (Lib.cut s.data.toList [32, 61, 32]).2.2 = true then varR m (ba (Lib.cut s.data.toList [32, 61, 32]).1) (ba (Lib.cut s.data.toList [32, 61, 32]).2.1)
  else ruleR m s
def linesR : Mk → List ByteArray → Nat × Mk
  | m, [] => (0, m)
  | m, s :: l => if (lineR m s).1 = 0 then linesR (lineR m s).2 l else ((lineR m s).1, (lineR m s).2)
/-- Is the i-th one there, and phony? -/
def inAt (phony T : List ByteArray) (i : Nat) : Bool := match T[i]? with
  | some t => inT phony t
  | none => false
/-- Does a rule agree with the phony names and with what earlier rules make? -/
def agreesR (phony made : List ByteArray) (r : Ru) : Bool := r.1.all (fun t => !inT made t) && (!inAt phony r.1 1 && (inAt phony r.1 0 == decide (r.2.2.length = 0)))
def checkGo (phony : List ByteArray) : List ByteArray → List Ru → Bool × List ByteArray
  | made, [] => (true, made)
  | made, r :: l => if agreesR phony made r = true then checkGo phony (made ++ r.1) l else (false, made)
def checkR (m : Mk) : Bool := (checkGo m.phony [] m.rules).1 && m.phony.all fun n => inT (checkGo m.phony [] m.rules).2 n
def parseR (s : ByteArray) : Nat × Mk :=
  if 600 < s.size then (2, mk0) else if (linesR mk0 (lines s)).1 ≠ 0 then ((linesR mk0 (lines s)).1, mk0) else if checkR (linesR mk0 (lines s)).2 = true then (0, (linesR mk0 (lines s)).2) else (3, mk0)

theorem linesR_append (m : Mk) (a b : List ByteArray) : linesR m (a ++ b) = if (linesR m a).1 = 0 then linesR (linesR m a).2 b else linesR m a := by
  induction a generalizing m with
  | nil => simp [linesR]
  | cons s a ih =>
    rw [List.cons_append, linesR, linesR]
    split
    · exact ih _
    · rfl
theorem lineR_note (m : Mk) (s : ByteArray) (h : noteB s = true) : lineR m s = (0, m) := by unfold lineR; rw [if_pos h]
theorem linesR_notes (m : Mk) (a b : List ByteArray) (l : List ByteArray) (h : ∀ s ∈ l, noteB s = true) : linesR m (a ++ l ++ b) = linesR m (a ++ b) := by
  have hl : ∀ m, linesR m l = (0, m) := by
    intro m
    induction l with
    | nil => rfl
    | cons s l ih =>
      rw [linesR, lineR_note m s (h s (by simp)), if_pos rfl]
      exact ih (fun x hx => h x (by simp [hx]))
  rw [List.append_assoc, linesR_append m a, linesR_append m a]
  split
  · rw [linesR_append, hl, if_pos rfl]
  · rfl
/-- How far a description may have come when k lines have been read. -/
structure Sane (m : Mk) (k : Nat) : Prop where
  vars : m.vars.length ≤ k
  rules : m.rules.length ≤ k
  phony : m.phony.length ≤ k
  texts : ∀ v ∈ m.vars, v.2.size ≤ 600
  cmds : ∀ r ∈ m.rules, r.1.length ≤ 2 ∧ r.2.1.length ≤ 3 ∧ r.2.2.length ≤ 3
  names : ∀ x ∈ m.phony, x.size ≤ 1000
  words : ∀ r ∈ m.rules, ∀ x ∈ r.1, x.size ≤ 1000
theorem Sane.mono {m : Mk} {k j : Nat} (h : Sane m k) (hj : k ≤ j) : Sane m j := ⟨Nat.le_trans h.vars hj, Nat.le_trans h.rules hj, Nat.le_trans h.phony hj, h.texts, h.cmds, h.names, h.words⟩
theorem sane0 : Sane mk0 0 := ⟨Nat.le_refl _, Nat.le_refl _, Nat.le_refl _, by simp [mk0], by simp [mk0], by simp [mk0], by simp [mk0]⟩
theorem moreCmd_len (l : List Ru) (c : ByteArray) : (moreCmd l c).length = l.length := by
  fun_induction moreCmd l c <;> simp_all
theorem moreCmd_mem {l : List Ru} {c : ByteArray} (hl : lastCmds l < 3) : ∀ r ∈ moreCmd l c, (r ∈ l) ∨ (∃ q ∈ l, r.1 = q.1 ∧ r.2.1 = q.2.1 ∧ r.2.2.length ≤ 3) := by
  fun_induction moreCmd l c with
  | case1 => simp
  | case2 r c =>
    intro x hx
    simp at hx
    subst hx
    simp only [lastCmds] at hl
    exact .inr ⟨r, by simp, rfl, rfl, by simp; omega⟩
  | case3 r s l c ih =>
    intro x hx
    rcases List.mem_cons.1 hx with rfl | hx
    · exact .inl (by simp)
    · rcases ih (by simpa [lastCmds] using hl) x hx with h | ⟨q, hq, h⟩
      · exact .inl (by simp at h ⊢; exact .inr h)
      · exact .inr ⟨q, by simp at hq ⊢; exact .inr hq, h⟩
theorem cut_fst_len (s p : Bs) : (Lib.cut s p).1.length ≤ s.length ∧ (Lib.cut s p).2.1.length ≤ s.length := by
  cases h : (Lib.cut s p).2.2 with
  | true => have := cut_short h; omega
  | false => rw [(cut_miss h).2]; simp
theorem wordsR_size {l : Bs} {x : ByteArray} (h : x ∈ wordsR l) : x.size ≤ l.length := by
  unfold wordsR at h
  obtain ⟨y, hy, rfl⟩ := List.mem_map.1 h
  rw [ba_size]
  have := fldGo_size [] l y hy
  simpa using this
theorem Sane.line {m : Mk} {k : Nat} (h : Sane m k) (s : ByteArray) (hs : s.size ≤ 600) : Sane (lineR m s).2 (k + 1) := by
  have h1 := h.mono (Nat.le_succ k)
  unfold lineR
  split
  · exact h1
  · split
    · unfold cmdR
      split
      · exact h1
      · split
        · exact h1
        · split
          · exact h1
          · rename_i hc
            refine ⟨h1.vars, by simp only [moreCmd_len]; exact h1.rules, h1.phony, h1.texts, fun r hr => ?_, ?_, ?_⟩
            · rcases moreCmd_mem (by omega) r hr with hr | ⟨q, hq, e1, e2, e3⟩
              · exact h1.cmds r hr
              · have := h1.cmds q hq
                rw [e1, e2]
                exact ⟨this.1, this.2.1, e3⟩
            · exact h1.names
            · intro r hr
              rcases moreCmd_mem (by omega) r hr with hr | ⟨q, hq, e1, _⟩
              · exact h1.words r hr
              · rw [e1]; exact h1.words q hq
    · split
      · unfold phonyR
        split
        · exact h1
        · refine ⟨h1.vars, h1.rules, by have := h.phony; simp; omega, h1.texts, h1.cmds, fun x hx => ?_, h1.words⟩
          rcases List.mem_append.1 hx with hx | hx
          · exact h1.names x hx
          · simp at hx
            subst hx
            rw [ByteArray.size_extract]
            omega
      · split
        · unfold varR
          split
          · exact h1
          · split
            · exact h1
            · refine ⟨by have := h.vars; simp; omega, h1.rules, h1.phony, fun v hv => ?_, h1.cmds, h1.names, h1.words⟩
              rcases List.mem_append.1 hv with hv | hv
              · exact h1.texts v hv
              · simp at hv
                subst hv
                have := (cut_fst_len s.data.toList [32, 61, 32]).2
                rw [ba_size]
                simp at this
                omega
        · unfold ruleR
          split
          · exact h1
          · rename_i he
            have he0 : (expR m.vars 5 s.data.toList).1 = 0 := by simpa using he
            have hel : (expR m.vars 5 s.data.toList).2.length ≤ 600 := expL_len _ _ _ _ (Prod.ext he0 rfl)
            unfold headR
            split
            · exact h1
            · split
              · exact h1
              · rename_i hc
                split
                · exact h1
                · refine ⟨h1.vars, by have := h.rules; simp; omega, h1.phony, h1.texts, fun r hr => ?_, h1.names, fun r hr => ?_⟩
                  · rcases List.mem_append.1 hr with hr | hr
                    · exact h1.cmds r hr
                    · simp at hr
                      subst hr
                      exact ⟨by simp only; omega, by simp only; omega, by simp⟩
                  · rcases List.mem_append.1 hr with hr | hr
                    · exact h1.words r hr
                    · simp at hr
                      subst hr
                      intro x hx
                      have h3 := wordsR_size hx
                      have h4 := (cut_fst_len (expR m.vars 5 s.data.toList).2 [58]).1
                      omega
end Go.Proofs.Ytlkpbpecgdphaaa
namespace Go.Proofs.Ytlkpbpecgdphaaa
open Go.RowKit Go.Shelf
attribute [local go_sem] Oper.semAt_some

/-- What has come when k rounds are over. -/
def upto {α : Type} (f : Nat → α) (k : Nat) : List α := (List.range k).map f
theorem upto_succ {α : Type} (f : Nat → α) (k : Nat) : upto f (k + 1) = upto f k ++ [f k] := by simp [upto, List.range_succ]
theorem upto_length {α : Type} (f : Nat → α) (k : Nat) : (upto f k).length = k := by simp [upto]
/-- The k-th from behind. -/
def bkAt (vs : List F) (k : Nat) : Nat × F := (vs.length - 1 - k, vs[vs.length - 1 - k]?.getD (ByteArray.empty, ByteArray.empty))
def encV (x : Nat × F) : Array Value := #[.int .i64 (x.1 : Int), .agg #[.string x.2.1, .string x.2.2]]




/-- A box of two strings. -/
def Box2 (W : World) (B : Nat) (a b : ByteArray) : Prop := W.heap[B]? = some (.cells #[.string a, .string b] 84 (0, 0))
theorem Box2.cells {W : World} {B : Nat} {a b : ByteArray} (h : Box2 W B a b) : W.cell? ⟨B, 0, none⟩ = some (.string a) ∧ W.cell? ⟨B, 1, none⟩ = some (.string b) := by
  constructor <;> simp [World.cell?, show W.heap[B]? = _ from h]
theorem box2_own (B : Nat) (a b : ByteArray) : Own (fun (_ : Unit) W => Box2 W B a b) := fun _ X Y row hs hg hrow =>
  (hg.block B (Array.getElem?_eq_some_iff.1 hs).1 (fun e' => by obtain ⟨o, ho, hc⟩ := hrow B e'.symm; rw [show X.heap[B]? = _ from hs] at ho; cases ho; cases hc)).trans hs
/-- No variable of that name among those that have come. -/
def NoneOf (pre : List (Nat × F)) (name : ByteArray) : Prop := ∀ x ∈ pre, x.2.1 ≠ name
theorem lastV_upto (vs : List F) (name : ByteArray) (h : NoneOf (upto (bkAt vs) vs.length) name) : lastV vs name = none := by
  unfold lastV
  rw [Option.map_eq_none_iff, List.find?_eq_none]
  intro v hv
  obtain ⟨i, hi, e⟩ := List.mem_iff_getElem.1 (List.mem_reverse.1 hv)
  have := h (bkAt vs (vs.length - 1 - i)) (by unfold upto; rw [List.mem_map]; exact ⟨vs.length - 1 - i, by simp; omega, rfl⟩)
  unfold bkAt at this
  rw [show vs.length - 1 - (vs.length - 1 - i) = i by omega, List.getElem?_eq_getElem hi, e] at this
  simpa using this
theorem lastV_hit (vs : List F) (name : ByteArray) (k : Nat) (hk : k < vs.length) (h : NoneOf (upto (bkAt vs) k) name) (hq : (bkAt vs k).2.1 = name) : lastV vs name = some (bkAt vs k).2.2 := by
  have e : ∀ j, j < vs.length → vs.reverse[j]? = some (bkAt vs j).2 := by
    intro j hj
    rw [List.getElem?_reverse hj]
    unfold bkAt
    rw [List.getElem?_eq_getElem (by omega)]
    rfl
  have hsplit : vs.reverse = vs.reverse.take k ++ (bkAt vs k).2 :: vs.reverse.drop (k + 1) := by
    have hk' : k < vs.reverse.length := by simpa using hk
    have h1 := (List.take_append_drop k vs.reverse).symm
    rw [List.drop_eq_getElem_cons hk'] at h1
    have h2 := e k hk
    rw [List.getElem?_eq_getElem hk'] at h2
    injection h2 with h2
    rw [h2] at h1
    exact h1
  unfold lastV
  rw [hsplit, List.find?_append]
  have hn : (vs.reverse.take k).find? (fun v => decide (v.1 = name)) = none := by
    rw [List.find?_eq_none]
    intro v hv
    obtain ⟨i, hi, e1⟩ := List.mem_iff_getElem.1 hv
    rw [List.length_take] at hi
    have h3 := e i (by omega)
    have h4 : (vs.reverse.take k)[i]? = some v := by rw [List.getElem?_eq_getElem (by rw [List.length_take]; exact hi), e1]
    rw [List.getElem?_take_of_lt (by omega), h3] at h4
    injection h4 with h4
    have := h (bkAt vs i) (by unfold upto; rw [List.mem_map]; exact ⟨i, by simp; omega, rfl⟩)
    rw [← h4]
    simpa using this
  rw [hn]
  simp [hq]


end Go.Proofs.Ytlkpbpecgdphaaa
namespace Go.Proofs.Ytlkpbpecgdphaaa
open Go.RowKit



end Go.Proofs.Ytlkpbpecgdphaaa
namespace Go.Proofs.Ytlkpbpecgdphaaa
open Go.RowKit

end Go.Proofs.Ytlkpbpecgdphaaa
namespace Go.Proofs.Ytlkpbpecgdphaaa
open Go.RowKit

def capB (b : UInt8) : Bool := decide (65 ≤ b.toNat) && decide (b.toNat ≤ 90)
theorem varOk_def (s : ByteArray) : varOk s = (decide (1 ≤ s.size) && decide (s.size ≤ 4) && s.data.toList.all capB) := rfl
theorem varOk_short {s : ByteArray} (h : s.size < 1) : varOk s = false := by rw [varOk_def, decide_eq_false (by omega : ¬ 1 ≤ s.size)]; rfl
theorem varOk_long {s : ByteArray} (h : 4 < s.size) : varOk s = false := by rw [varOk_def, decide_eq_false (by omega : ¬ s.size ≤ 4)]; simp
theorem varOk_bad {s : ByteArray} {k : Nat} (hk : k < s.size) (h : capB s[k] = false) : varOk s = false := by
  have : s.data.toList.all capB = false := by
    rw [List.all_eq_false]
    exact ⟨s[k], by rw [List.mem_iff_getElem]; exact ⟨k, by simpa using hk, rfl⟩, by simp [h]⟩
  rw [varOk_def, this]
  simp
theorem varOk_all {s : ByteArray} (h1 : 1 ≤ s.size) (h4 : s.size ≤ 4) (h : ∀ j (hj : j < s.size), capB s[j] = true) : varOk s = true := by
  rw [varOk_def, decide_eq_true h1, decide_eq_true h4]
  simp only [Bool.and_self, Bool.true_and, List.all_eq_true]
  intro b hb
  obtain ⟨j, hj, e⟩ := List.mem_iff_getElem.1 hb
  rw [← e]
  exact h j (by simpa using hj)
def VarRel (s : ByteArray) (i : Value) : Prop := ∃ k : Nat, k ≤ s.size ∧ i = .int .i64 k ∧ ∀ j (hj : j < s.size), j < k → capB s[j] = true

end Go.Proofs.Ytlkpbpecgdphaaa
namespace Go.Proofs.Ytlkpbpecgdphaaa
open Go.RowKit

theorem laidOutP : laidOutB Try.prog = true := by kernel_rfl
def refV (s : ByteArray) (d : Int) : Value := .agg #[.string s, .int .i64 d]

section
variable {l : List F} {w w' : World} {bm n : Nat}
theorem grown_of_below (h : Below w.heap.size w w') : w.grownBy w' none := ⟨h.os, h.tape, h.output, h.size, fun k hk _ => h.block k hk⟩
theorem wf_depth {k : Nat} (hk : k ≤ 5) : (Lit.int .i64 (6 - (k : Int))).wf = true := by
  match k, hk with
  | 0, _ => decide
  | 1, _ => decide
  | 2, _ => decide
  | 3, _ => decide
  | 4, _ => decide
  | 5, _ => decide
theorem zeroS (w : World) : (zeroValue 9).run Try.prog w = .ok (.string ByteArray.empty) w := by kernel_rfl
end

/-- A cell lies in no map. -/
theorem cell_past_map {w w' : World} {bm : Nat} {a : Addr} {v : Value} (hb : ∃ es c, w.heap[bm]? = some (.map es c)) (hg : w.grownBy w' (some bm)) (h : w.cell? a = some v) : w'.cell? a = some v := by
  obtain ⟨es, c, hb⟩ := hb
  have hne : some a.block ≠ some bm := by
    intro e
    injection e with e
    unfold World.cell? at h
    rw [e, hb] at h
    simp at h
  exact (World.cell?_of_block (hg.block a.block (World.block_lt_of_cell? _ _ h) hne)).trans h
theorem RdF.past_map {w w' : World} {bm n c : Nat} {A : Option Addr} {l : List F} (h : RdF w w.heap.size A n c l) (hb : ∃ es c, w.heap[bm]? = some (.map es c)) (hg : w.grownBy w' (some bm)) : RdF w' w'.heap.size A n c l :=
  ⟨h.1, h.2.1, h.2.2.1, fun hn => by
    obtain ⟨b, off, e, hbb, hc⟩ := h.2.2.2 hn
    exact ⟨b, off, e, Nat.lt_of_lt_of_le hbb hg.size, fun j u hu => cell_past_map hb hg (hc j u hu)⟩⟩
section
variable {l : List F} {w w' : World} {bx bm n nv cv : Nat} {A : Option Addr}
end
theorem grown_trans {a b c : World} {row : Option Nat} (h : a.grownBy b row) (k : b.grownBy c row) : a.grownBy c row :=
  ⟨k.os.trans h.os, k.tape.trans h.tape, k.output.trans h.output, Nat.le_trans h.size k.size, fun i hi hr => (k.block i (Nat.lt_of_lt_of_le hi h.size) hr).trans (h.block i hi hr)⟩
theorem grown_below {w w' : World} (h : Below w.heap.size w w') (row : Option Nat) : w.grownBy w' row := ⟨h.os, h.tape, h.output, h.size, fun k hk _ => h.block k hk⟩
end Go.Proofs.Ytlkpbpecgdphaaa
namespace Go.Proofs.Ytlkpbpecgdphaaa
open Go.RowKit

/-- So many references may be laid into the map on the way, k levels left. -/
def cst : Nat → Nat
  | 0 => 0
  | k + 1 => 1 + 1000 * cst k

theorem valR_bad {l : List F} {k : Nat} {s : ByteArray} (h : varOk s = false) : valR l k s.data.toList = (4, []) := by
  cases k <;> (unfold valR; rw [ba_of, h]; simp)
theorem valR_none {l : List F} {k : Nat} {s : ByteArray} (h : varOk s = true) (hl : lastV l s = none) : valR l k s.data.toList = (5, []) := by
  cases k <;> (unfold valR; rw [ba_of, h, hl]; simp)
theorem valR_deep {l : List F} {s t : ByteArray} (h : varOk s = true) (hl : lastV l s = some t) : valR l 0 s.data.toList = (9, []) := by
  unfold valR; rw [ba_of, h, hl]; simp
theorem valR_text {l : List F} {k : Nat} {s t : ByteArray} (h : varOk s = true) (hl : lastV l s = some t) : valR l (k + 1) s.data.toList = expR l k t.data.toList := by
  unfold valR expR; rw [ba_of, h, hl]; simp
theorem lastV_mem {l : List F} {n t : ByteArray} (h : lastV l n = some t) : ∃ v ∈ l, v.2 = t := by
  unfold lastV at h
  rw [Option.map_eq_some_iff] at h
  obtain ⟨v, h1, h2⟩ := h
  exact ⟨v, List.mem_reverse.1 (List.mem_of_find?_eq_some h1), h2⟩
theorem expL_err {V : Bs → Nat × Bs} : ∀ (n : Nat) (out s : Bs), (expL V n out s).1 ≠ 0 → (expL V n out s).2 = [] := by
  intro n
  induction n with
  | zero => intro out s h; simp [expL] at h
  | succ n ih =>
    intro out s h
    rw [expL] at h ⊢
    split at h
    · split at h
      · split at h
        · split at h
          · simp only [*, if_true]
          · simp only [*, if_true, if_false]; exact ih _ _ h
        · simp only [*, if_true, if_false]
      · simp only [*, if_true]; rfl
    · split at h
      · simp only [*, if_true]; rfl
      · exact absurd rfl h


def restLen (p q m : Value) : Nat := match p, q, m with
  | .string a, .string b, .bool true => a.size + b.size + 2
  | .string a, _, _ => a.size
  | _, _, _ => 0

theorem valR_len (l : List F) (k : Nat) (nm : Bs) : (valR l k nm).1 = 0 → (valR l k nm).2.length ≤ 600 := by
  intro h
  cases k with
  | zero =>
    unfold valR at h
    split at h
    · split at h <;> simp at h
    · simp at h
  | succ k =>
    unfold valR at h ⊢
    split at h
    · rename_i hv
      rw [if_pos hv]
      split at h
      · simp at h
      · rename_i t hl
        exact expL_len t.size [] t.data.toList _ (Prod.ext h rfl)
    · simp at h
theorem restLen_cut (rest : Bs) : restLen (.string (ba (Lib.cut rest [36, 40]).1)) (.string (ba (Lib.cut rest [36, 40]).2.1)) (.bool (Lib.cut rest [36, 40]).2.2) = rest.length := by
  cases h : (Lib.cut rest [36, 40]).2.2 with
  | true =>
    have := cut_short h
    simp only [List.length_cons, List.length_nil] at this
    simp only [restLen, ba_size]
    omega
  | false =>
    obtain ⟨_, e⟩ := cut_miss h
    rw [e]
    simp [restLen, ba_size]
theorem succ_le_mul {a b c : Nat} (h : a + 1 ≤ b) : a * c + c ≤ b * c := by
  have := Nat.mul_le_mul_right c h
  rw [Nat.succ_mul] at this
  exact this

end Go.Proofs.Ytlkpbpecgdphaaa
namespace Go.Proofs.Ytlkpbpecgdphaaa
open Go.RowKit


end Go.Proofs.Ytlkpbpecgdphaaa
