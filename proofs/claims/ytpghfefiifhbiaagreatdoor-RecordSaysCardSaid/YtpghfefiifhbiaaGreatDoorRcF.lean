/-
  WALK: the reader of package record: files. PLAIN: what one file's reading comes to.
-/
import Derived.Test.YtpghfefiifhbiaaGreatDoorRcT
import Derived.Test.YtpghfefiifhbiaaGreatDoorConcat
namespace Go.Proofs.YtpghfefiifhbiaaGreatDoor
open Go.RowKit Go.Sort

theorem idx_up (s : Bs) (c : UInt8) : Lib.indexByte s c = if c ∈ s then ((upB c s).length : Int) else -1 := by
  induction s with
  | nil => rfl
  | cons x s ih =>
    unfold Lib.indexByte
    by_cases h : x = c
    · subst h
      simp [upB]
    · have h1 : (x == c) = false := by simpa using h
      have h2 : ¬ c = x := fun e => h e.symm
      rw [h1, ih]
      simp only [Bool.false_eq_true, if_false]
      have hu : upB c (x :: s) = x :: upB c s := by
        unfold upB
        rw [List.takeWhile_cons, if_pos (by simpa using h)]
      by_cases hm : c ∈ s
      · have hz : (((upB c s).length : Int) == -1) = false := by rw [beq_eq_false_iff_ne]; omega
        have hm2 : c ∈ x :: s := List.mem_cons_of_mem _ hm
        rw [if_pos hm2, hu]
        simp only [if_pos hm, hz, Bool.false_eq_true, if_false]
        rw [List.length_cons]
        omega
      · have hm2 : ¬ c ∈ x :: s := fun e => by rcases List.mem_cons.1 e with e | e; exact h2 e; exact hm e
        rw [if_neg hm2]
        simp only [if_neg hm]
        rfl
/-- The name's bytes, and what is left behind them. -/
def nmT (st : St) : Bs := if (32 : UInt8) ∈ rest st then upB 32 (rest st) else []
theorem nmT_pre (st : St) : nmT st ++ (rest st).drop (nmT st).length = rest st := by
  unfold nmT
  split
  · have e : rest st = upB 32 (rest st) ++ frB 32 (rest st) := (up_fr 32 _).symm
    generalize upB 32 (rest st) = u at *
    generalize frB 32 (rest st) = v at *
    rw [e, List.drop_left]
  · rfl
theorem nmT_len (st : St) : (nmT st).length ≤ (rest st).length := by
  have := congrArg List.length (nmT_pre st)
  rw [List.length_append] at this
  omega
theorem nmT_take (st : St) : (rest st).take (nmT st).length = nmT st := by
  have := nmT_pre st
  generalize nmT st = u at *
  generalize rest st = v at *
  rw [← this]
  exact List.take_left
def s2F (st : St) : St := (s1T st).map fun s => s.drop (nmT (s1T st)).length
def o3F (st : St) : Option (ByteArray × Bs) := txS 20 (s2F st)
def s4F (st : St) : St := if faultN (ba (nmT (s1T st))) (tOf (o3F st)) = 0 then sOf (o3F st) else none
def flF (st : St) : F := (ba (nmT (s1T st)), tOf (o3F st))
theorem nameB_nil : nameB (ba []) = false := nameB_short (.inl (by decide))
theorem txO_size {most : Nat} {s : Bs} {t : ByteArray} {r : Bs} (h : txO most s = some (t, r)) : t.size ≤ most := by
  unfold txO at h
  cases h1 : expO 32 s with
  | none => rw [h1] at h; cases h
  | some s1 =>
    rw [h1, Option.bind_some] at h
    cases h2 : numO most s1 with
    | none => rw [h2] at h; cases h
    | some p =>
      rw [h2, Option.bind_some] at h
      cases h3 : expO 58 p.2 with
      | none => rw [h3] at h; cases h
      | some s3 =>
        rw [h3, Option.bind_some] at h
        split at h
        · injection h with h
          injection h with h4 _
          rw [← h4, ba_size, List.length_take]
          have := (numO_some (n := p.1) (r := p.2) h2).1
          omega
        · cases h
theorem txO_no {most : Nat} {s : Bs} (h : (32 : UInt8) ∉ s) : txO most s = none := by
  unfold txO
  cases s with
  | nil => rfl
  | cons x s =>
    have : ¬ x = 32 := fun e => h (by simp [e])
    simp [expO, this]
theorem fl_step (st : St) : st.bind (flO nameB) = (s4F st).map fun s => (flF st, s) := by
  cases st with
  | none =>
    have : s4F none = none := by
      unfold s4F
      split
      · rfl
      · rfl
    rw [this]
    rfl
  | some s =>
    show flO nameB s = _
    unfold flO flF s4F o3F s2F
    have e1 : s1T (some s) = expO 32 s := rfl
    rw [e1]
    cases h1 : expO 32 s with
    | none =>
      show none = Option.map _ (if _ then sOf (txS 20 none) else none)
      split <;> rfl
    | some s1 =>
      simp only [Option.bind_some, Option.map_some]
      have hr : rest (some s1) = s1 := rfl
      have e2 : ∀ x : Bs, txS 20 (some x) = txO 20 x := fun _ => rfl
      rw [e2]
      unfold nmT
      rw [hr]
      by_cases hm : (32 : UInt8) ∈ s1
      · rw [if_pos hm]
        have hd : s1.drop (upB 32 s1).length = frB 32 s1 := by
          have e := up_fr 32 s1
          generalize upB 32 s1 = u at *
          generalize frB 32 s1 = v at *
          rw [← e, List.drop_left]
        rw [hd]
        cases h3 : txO 20 (frB 32 s1) with
        | none => simp [sOf]
        | some p =>
          obtain ⟨t, r⟩ := p
          have hsz := txO_size h3
          simp only [Option.bind_some]
          show (if nameB (ba (upB 32 s1)) = true then some ((ba (upB 32 s1), t), r) else none) = (if faultN (ba (upB 32 s1)) t = 0 then some r else none).map fun s => ((ba (upB 32 s1), t), s)
          by_cases hn : nameB (ba (upB 32 s1)) = true
          · have hf : faultN (ba (upB 32 s1)) t = 0 := by unfold faultN; rw [if_pos hn, if_neg (by omega)]
            rw [if_pos hn, if_pos hf]; rfl
          · have hf : faultN (ba (upB 32 s1)) t = 3 := by unfold faultN; rw [if_neg hn]
            rw [if_neg hn, if_neg (by rw [hf]; decide)]; rfl
      · rw [if_neg hm, (up_none hm).1, (up_none hm).2]
        have hd : s1.drop ([] : Bs).length = s1 := rfl
        rw [hd, txO_no hm, txO_no (by simp)]
        simp [sOf]
theorem rest_s2 (st : St) : (rest (s2F st)).length ≤ (rest st).length := by
  refine Nat.le_trans ?_ (rest_bind_exp 32 st)
  show (rest ((s1T st).map _)).length ≤ (rest (s1T st)).length
  cases s1T st with
  | none => exact Nat.le_refl _
  | some s => show (s.drop _).length ≤ s.length; rw [List.length_drop]; omega
theorem rest_tx (most : Nat) (st : St) : (rest (sOf (txS most st))).length ≤ (rest st).length := by
  rw [txS_eq]
  have h1 : (rest (s3T most st)).length ≤ (rest st).length := Nat.le_trans (rest_bind_exp 58 _) (Nat.le_trans (rest_numS most _) (rest_bind_exp 32 st))
  cases h : s3T most st with
  | none => exact Nat.zero_le _
  | some s =>
    rw [h] at h1
    have h2 : s.length ≤ (rest st).length := h1
    rw [Option.bind_some]
    split
    · show (s.drop _).length ≤ _; rw [List.length_drop]; omega
    · exact Nat.zero_le _
theorem rest_s4 (st : St) : (rest (s4F st)).length ≤ (rest st).length := by
  unfold s4F
  split
  · exact Nat.le_trans (rest_tx 20 _) (rest_s2 st)
  · exact Nat.zero_le _
/-- One file's reading goes on. -/
theorem many_step {α : Type} (p : Bs → Option (α × Bs)) (k : Nat) (st : St) : st.bind (manyO p (k + 1)) = (st.bind (manyO p k)).bind fun x => (p x.2).bind fun a => some (x.1 ++ [a.1], a.2) := by
  cases st <;> rfl
/-- What has been read and what is left, so far. -/
def Sofar {α : Type} (o : Option (List α × Bs)) (k : Nat) (l : List α) (st : St) : Prop := l.length = k ∧ st = sOf o ∧ ∀ x, o = some x → l = x.1
theorem Sofar.next {k : Nat} {l : List F} {st st0 : St} (h : Sofar (st0.bind (manyO (flO nameB) k)) k l st) : Sofar (st0.bind (manyO (flO nameB) (k + 1))) (k + 1) (l ++ [flF st]) (s4F st) := by
  obtain ⟨h1, h2, h3⟩ := h
  rw [many_step]
  refine ⟨by rw [List.length_append, h1]; rfl, ?_, fun x hx => ?_⟩
  · cases ho : st0.bind (manyO (flO nameB) k) with
    | none =>
      rw [ho] at h2
      have e : st = none := h2
      subst e
      have := fl_step none
      rw [Option.bind_none]
      show s4F none = none
      cases h4 : s4F none with
      | none => rfl
      | some s => rw [h4] at this; cases this
    | some y =>
      rw [ho] at h2
      have e : st = some y.2 := h2
      subst e
      have := fl_step (some y.2)
      rw [Option.bind_some] at this ⊢
      rw [this]
      cases s4F (some y.2) <;> rfl
  · cases ho : st0.bind (manyO (flO nameB) k) with
    | none => rw [ho] at hx; cases hx
    | some y =>
      rw [ho] at h2 hx
      have e : st = some y.2 := h2
      subst e
      have := fl_step (some y.2)
      rw [Option.bind_some] at this hx
      rw [this] at hx
      rw [h3 y ho]
      cases h4 : s4F (some y.2) with
      | none => rw [h4] at hx; cases hx
      | some s => rw [h4] at hx; injection hx with hx; rw [← hx]
end Go.Proofs.YtpghfefiifhbiaaGreatDoor
