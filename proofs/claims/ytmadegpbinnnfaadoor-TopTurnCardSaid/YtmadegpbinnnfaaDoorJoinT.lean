/-
  PLAIN FACTS ON JOINING WORDS by blanks, and strings.Join at a blank: what it gives. Under no condition on any program but that the words are no longer than a million bytes together.
-/
import Derived.Test.YtmadegpbinnnfaaDoorRunSpec
namespace Go.Proofs.YtmadegpbinnnfaaDoor
open Go.RowKit

theorem join_cons2 (x y : List UInt8) (r : List (List UInt8)) (sep : List UInt8) : Lib.join (x :: y :: r) sep = x ++ (sep ++ Lib.join (y :: r) sep) := by
  simp [Lib.join, List.intercalate]
theorem join_spl : ∀ l : List UInt8, Lib.join (spl l) [32] = l
  | [] => by simp [spl, Lib.join, List.intercalate]
  | b :: l => by
    have ih := join_spl l
    obtain ⟨h, t, e⟩ : ∃ h t, spl l = h :: t := by
      cases hs : spl l with
      | nil => exact absurd hs (spl_ne l)
      | cons h t => exact ⟨h, t, rfl⟩
    by_cases hb : b = 32
    · subst hb
      rw [spl_blank, e, join_cons2, ← e, ih]; rfl
    · rw [spl_other hb e]
      rw [e] at ih
      cases t with
      | nil => simpa [Lib.join, List.intercalate] using ih
      | cons y t => rw [join_cons2] at ih ⊢; rw [← ih]; rfl
theorem join_tail_le (x : List UInt8) (r : List (List UInt8)) (sep : List UInt8) : (Lib.join r sep).length ≤ (Lib.join (x :: r) sep).length := by
  cases r with
  | nil => simp [Lib.join, List.intercalate]
  | cons y r => rw [join_cons2]; simp; omega
theorem join_drop_le (k : Nat) : ∀ (r : List (List UInt8)) (sep : List UInt8), (Lib.join (r.drop k) sep).length ≤ (Lib.join r sep).length := by
  induction k with
  | zero => intro r sep; simp
  | succ k ih =>
    intro r sep
    cases r with
    | nil => simp
    | cons x r => rw [List.drop_succ_cons]; exact Nat.le_trans (ih r sep) (join_tail_le x r sep)
theorem joinT_size (cmd : ByteArray) (k : Nat) : (Lib.join (((words cmd).drop k).map (·.data.toList)) [32]).length ≤ cmd.size := by
  have h := join_drop_le k (spl cmd.data.toList) [32]
  rw [join_spl] at h
  rw [List.map_drop, words_data]
  simpa using h
theorem of_data_one {a b : ByteArray} (h : a.data.toList = b.data.toList) : a = b := by
  obtain ⟨⟨x⟩⟩ := a
  obtain ⟨⟨y⟩⟩ := b
  have e : x = y := h
  rw [e]
/-- The rest of the text behind two words is the other words, joined. -/
theorem joinT_rest (cmd : ByteArray) (h : 3 ≤ (words cmd).length) : joinT ((words cmd).drop 2) = cmd.extract ((wd (words cmd) 0).size + (wd (words cmd) 1).size + 2) cmd.size := by
  have hd := words_data cmd
  have hj := join_spl cmd.data.toList
  rw [← hd] at hj
  obtain ⟨a, b, c, r, e⟩ : ∃ a b c r, words cmd = a :: b :: c :: r := by
    match hw : words cmd, h with
    | a :: b :: c :: r, _ => exact ⟨a, b, c, r, rfl⟩
  rw [e] at hj ⊢
  simp only [List.map_cons] at hj
  rw [join_cons2, join_cons2] at hj
  have ew : wd (a :: b :: c :: r) 0 = a ∧ wd (a :: b :: c :: r) 1 = b := ⟨rfl, rfl⟩
  rw [ew.1, ew.2]
  apply of_data_one
  rw [ext_data]
  have hl : cmd.data.toList.take cmd.size = cmd.data.toList := List.take_of_length_le (by simp)
  rw [hl, ← hj]
  show Lib.join ((c :: r).map (·.data.toList)) [32] = _
  have hs : a.size = a.data.toList.length := by simp
  have hs2 : b.size = b.data.toList.length := by simp
  rw [hs, hs2, show a.data.toList.length + b.data.toList.length + 2 = a.data.toList.length + (1 + (b.data.toList.length + 1)) by omega]
  rw [← List.drop_drop, List.drop_left, ← List.drop_drop, List.drop_left' (by rfl), ← List.drop_drop, List.drop_left]
  rfl

theorem joinCall_any (bk o c k : Nat) (xs : List ByteArray) (w : World) (hk : xs.length = k) (hcells : ∀ (j : Nat) x, xs[j]? = some x → w.cell? ⟨bk, o + j, none⟩ = some (.string x)) (hbk : bk < w.heap.size) (hN : k ≤ 1000000) (hcap : k ≤ c)
    (hlen : (Lib.join (xs.map (·.data.toList)) [32]).length ≤ 1000000) :
    Calls Tryd.prog 29 #[.slice (some ⟨bk, o, none⟩) k c, .string ⟨#[32]⟩] w fun e w' => e = .returned (.string (joinT xs)) ∧ Below w.heap.size w w' := by
  subst hk
  exact Tryd.strings_Join bk o c xs ⟨#[32]⟩ w hcells hbk (by omega) hcap (by show (Lib.join (xs.map (·.data.toList)) [32]).length ≤ _; omega)
end Go.Proofs.YtmadegpbinnnfaaDoor
