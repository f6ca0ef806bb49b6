/-
  PLAIN WORDS (no program): the non-empty strings between blanks of a text; strings.FieldsFunc with the predicate 'is a blank' gives just these, for every text, valid UTF-8 or not.
-/
import Derived.Test.YtkkoflbeggdblaaDoorExp
import Derived.Lib.FieldsP
namespace Go.Proofs.YtkkoflbeggdblaaDoor
open Go Go.Lib

/-- The non-empty strings between blanks, behind a word that has begun. -/
def fldGo : Bs → Bs → List Bs
  | cur, [] => if cur = [] then [] else [cur]
  | cur, b :: l => if b = 32 then (if cur = [] then fldGo [] l else cur :: fldGo [] l) else fldGo (cur ++ [b]) l
def fieldsB (l : Bs) : List Bs := fldGo [] l
theorem fldGo_skip : ∀ (p cur l : Bs), (∀ b ∈ p, b ≠ 32) → fldGo cur (p ++ l) = fldGo (cur ++ p) l
  | [], cur, l, _ => by simp
  | b :: p, cur, l, h => by
    rw [List.cons_append, fldGo, if_neg (h b (by simp)), fldGo_skip p (cur ++ [b]) l (fun x hx => h x (by simp [hx]))]
    simp
def isBlank (r : Nat) : Bool := decide (r = 32)
theorem get_bang (s : ByteArray) (i : Nat) (h : i < s.size) : s.get! i = s[i] := by
  cases s
  simp only [ByteArray.get!, ByteArray.size] at h ⊢
  exact getElem!_pos _ i h
/-- A rune is a blank just where its first byte is one; no other byte of a rune is. -/
theorem dec_blank (s : ByteArray) (pos : Nat) (h : (s.get! pos).toNat = 32) : Utf8.decode s pos = (32, 1) := by
  unfold Utf8.decode
  simp [h]
theorem dec_other (s : ByteArray) (pos : Nat) (hp : pos < s.size) (h : (s.get! pos).toNat ≠ 32) :
    (Utf8.decode s pos).1 ≠ 32 ∧ 1 ≤ (Utf8.decode s pos).2 ∧ pos + (Utf8.decode s pos).2 ≤ s.size ∧ ∀ k, k < (Utf8.decode s pos).2 → (s.get! (pos + k)).toNat ≠ 32 := by
  have h0 : ∀ k, k < 1 → (s.get! (pos + k)).toNat ≠ 32 := fun k hk => by
    obtain rfl : k = 0 := by omega
    exact h
  unfold Utf8.decode
  simp only [Nat.add_zero, Utf8.runeError]
  split
  · exact ⟨h, by simp, by simp only; omega, by simpa using h0⟩
  · split
    · rename_i hc
      simp only [Bool.and_eq_true, beq_iff_eq, decide_eq_true_eq] at hc
      split
      · rename_i hg
        refine ⟨by simp only; omega, by simp, by simp only; omega, fun k hk => ?_⟩
        simp only at hk
        match k with
        | 0 => exact h
        | 1 => intro e; have := hc.2.2; omega
        | k + 2 => omega
      · exact ⟨by simp, by simp, by simp only; omega, by simpa using h0⟩
    · split
      · rename_i hc
        simp only [Bool.and_eq_true, beq_iff_eq, decide_eq_true_eq] at hc
        split
        · rename_i hg
          simp only [Bool.and_eq_true, decide_eq_true_eq, ge_iff_le] at hg
          refine ⟨by simp only; omega, by simp, by simp only; omega, fun k hk => ?_⟩
          simp only at hk
          match k with
          | 0 => exact h
          | 1 => intro e; have := hc.1.2.2; omega
          | 2 => intro e; have := hc.2.2; omega
          | k + 3 => omega
        · exact ⟨by simp, by simp, by simp only; omega, by simpa using h0⟩
      · split
        · rename_i hc
          simp only [Bool.and_eq_true, beq_iff_eq, decide_eq_true_eq] at hc
          split
          · rename_i hg
            simp only [Bool.and_eq_true, decide_eq_true_eq, ge_iff_le] at hg
            refine ⟨by simp only; omega, by simp, by simp only; omega, fun k hk => ?_⟩
            simp only at hk
            match k with
            | 0 => exact h
            | 1 => intro e; have := hc.1.1.2.2; omega
            | 2 => intro e; have := hc.1.2.2; omega
            | 3 => intro e; have := hc.2.2; omega
            | k + 4 => omega
          · exact ⟨by simp, by simp, by simp only; omega, by simpa using h0⟩
        · exact ⟨by simp, by simp, by simp only; omega, by simpa using h0⟩
theorem byte_toNat {b : UInt8} (h : b.toNat ≠ 32) : b ≠ 32 := by rintro rfl; exact h rfl
theorem drop_cons_get (s : ByteArray) (pos : Nat) (h : pos < s.size) : s.data.toList.drop pos = s.get! pos :: s.data.toList.drop (pos + 1) := by
  rw [List.drop_eq_getElem_cons (by simpa using h), get_bang s pos h]
  rfl
theorem spans_fld (s : ByteArray) : ∀ (f pos : Nat) (st : Option Nat) (acc : List (Nat × Nat)), s.size ≤ pos + f → pos ≤ s.size → (∀ a, st = some a → a < pos) →
    acc.map (fun p => pieceU s.data.toList p.1 p.2) ++ fldGo (openPiece s.data.toList st pos) (s.data.toList.drop pos) = (closeSpans s (spansFromP isBlank s f pos st acc)).map (fun p => pieceU s.data.toList p.1 p.2)
  | 0, pos, st, acc, h, hp, hst => by
    obtain rfl : pos = s.size := by omega
    have hd : s.data.toList.drop s.size = [] := List.drop_eq_nil_of_le (by rw [← size_eq]; exact Nat.le_refl _)
    rw [hd, fldGo]
    cases st with
    | none => simp [spansFromP, closeSpans, openPiece]
    | some a =>
      have := pieceU_ne s.data.toList a s.size (hst a rfl) (by rw [← size_eq]; exact Nat.le_refl _)
      simp [spansFromP, closeSpans, openPiece, this]
  | f + 1, pos, st, acc, h, hp, hst => by
    by_cases hlt : pos < s.size
    · by_cases hb : (s.get! pos).toNat = 32
      · have hdec := dec_blank s pos hb
        have hbb : s.get! pos = 32 := UInt8.toNat_inj.1 hb
        rw [drop_cons_get s pos hlt, hbb, fldGo, if_pos rfl]
        simp only [spansFromP, if_pos hlt, hdec]
        simp only [isBlank, decide_true, if_true]
        cases st with
        | none =>
          have ih := spans_fld s f (pos + 1) none acc (by omega) (by omega) (fun a h => by cases h)
          simpa [openPiece] using ih
        | some a =>
          have hpn := pieceU_ne s.data.toList a pos (hst a rfl) (by rw [← size_eq]; omega)
          have ih := spans_fld s f (pos + 1) none (acc ++ [(a, pos)]) (by omega) (by omega) (fun a h => by cases h)
          simpa [openPiece, hpn] using ih
      · obtain ⟨h1, h2, h3, h4⟩ := dec_other s pos hlt hb
        simp only [spansFromP, if_pos hlt]
        have hib : isBlank (Utf8.decode s pos).1 = false := by unfold isBlank; exact decide_eq_false h1
        rw [hib]
        simp only [Bool.false_eq_true, if_false]
        generalize (Utf8.decode s pos).2 = k at h2 h3 h4 ⊢
        have hsplit : s.data.toList.drop pos = (s.data.toList.drop pos).take k ++ s.data.toList.drop (pos + k) := by
          rw [← List.drop_drop, List.take_append_drop]
        have hno : ∀ b ∈ (s.data.toList.drop pos).take k, b ≠ 32 := by
          intro b hb'
          obtain ⟨j, hj, e⟩ := List.mem_iff_getElem.1 hb'
          rw [List.length_take, List.length_drop] at hj
          have := h4 j (by omega)
          rw [get_bang s (pos + j) (by omega)] at this
          rw [← e, List.getElem_take, List.getElem_drop]
          exact byte_toNat this
        rw [hsplit, fldGo_skip _ _ _ hno]
        cases st with
        | none =>
          have ih := spans_fld s f (pos + k) (some pos) acc (by omega) h3 (fun a h => by cases h; omega)
          have e : ([] : Bs) ++ (s.data.toList.drop pos).take k = pieceU s.data.toList pos (pos + k) := by
            unfold pieceU
            rw [List.nil_append, Nat.add_sub_cancel_left]
          simp only [openPiece] at ih ⊢
          rw [e]
          exact ih
        | some a =>
          have ih := spans_fld s f (pos + k) (some a) acc (by omega) h3 (fun b h => by cases h; have := hst a rfl; omega)
          simp only [openPiece] at ih ⊢
          rw [pieceU_grow _ _ _ _ (Nat.le_of_lt (hst a rfl))]
          exact ih
    · obtain rfl : pos = s.size := by omega
      have hd : s.data.toList.drop s.size = [] := List.drop_eq_nil_of_le (by rw [← size_eq]; exact Nat.le_refl _)
      rw [hd, fldGo, spansFromP_end isBlank s _ _ _ _ hlt]
      cases st with
      | none => simp [closeSpans, openPiece]
      | some a =>
        have := pieceU_ne s.data.toList a s.size (hst a rfl) (by rw [← size_eq]; exact Nat.le_refl _)
        simp [closeSpans, openPiece, this]
/-- What strings.FieldsFunc gives. -/
theorem goFields_blank (s : ByteArray) : goFieldsP isBlank s = (fieldsB s.data.toList).map ba := by
  have h := spans_fld s s.size 0 none [] (by omega) (by omega) (fun a h => by cases h)
  simp only [List.map_nil, List.nil_append, openPiece, List.drop_zero] at h
  unfold goFieldsP fieldsB spansOfP
  rw [h, List.map_map]
  apply List.map_congr_left
  intro x _
  show s.extract x.1 x.2 = ba (pieceU s.data.toList x.1 x.2)
  rw [← ba_of (s.extract x.1 x.2), Lib.extract_data]
  rfl
theorem fldGo_len : ∀ (cur l : Bs), (fldGo cur l).length ≤ l.length + 1
  | cur, [] => by unfold fldGo; split <;> simp
  | cur, b :: l => by
    unfold fldGo
    split
    · split
      · have := fldGo_len [] l; simp; omega
      · have := fldGo_len [] l; simp; omega
    · have := fldGo_len (cur ++ [b]) l; simp; omega
theorem fldGo_size : ∀ (cur l : Bs) (x : Bs), x ∈ fldGo cur l → x.length ≤ cur.length + l.length
  | cur, [], x, h => by
    unfold fldGo at h
    split at h
    · simp at h
    · simp at h; subst h; simp
  | cur, b :: l, x, h => by
    unfold fldGo at h
    split at h
    · split at h
      · have := fldGo_size [] l x h; simp at this ⊢; omega
      · rcases List.mem_cons.1 h with rfl | h
        · simp
        · have := fldGo_size [] l x h; simp at this ⊢; omega
    · have := fldGo_size (cur ++ [b]) l x h; simp at this ⊢; omega
end Go.Proofs.YtkkoflbeggdblaaDoor
