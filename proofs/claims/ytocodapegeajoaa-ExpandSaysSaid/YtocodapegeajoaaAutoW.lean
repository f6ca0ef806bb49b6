/-
  WORDS: what expand.Auto gives: each dollar with its letter replaced, from left to right.
-/
import Derived.Test.YtocodapegeajoaaLook
namespace Go.Proofs.Ytocodapegeajoaa

section
variable (v0 v1 v2 v3 : ByteArray)
def autoL : Bs → Bs
  | [] => []
  | [b] => [b]
  | b :: c :: r => match (if b = 36 then autoV v0 v1 v2 v3 c else none) with
    | some v => v.data.toList ++ autoL r
    | none => b :: autoL (c :: r)
/-- What is found at the head of a text. -/
def look2 : Bs → Option ByteArray
  | b :: c :: _ => if b = 36 then autoV v0 v1 v2 v3 c else none
  | _ => none
theorem lookR_eq (s : ByteArray) : lookR v0 v1 v2 v3 s = look2 v0 v1 v2 v3 s.data.toList := by
  obtain ⟨⟨l⟩⟩ := s
  unfold lookR look2
  rcases l with _ | ⟨b, _ | ⟨c, r⟩⟩
  · rfl
  · rfl
  · rw [dif_pos (show 2 ≤ (ByteArray.mk ⟨b :: c :: r⟩).size from by show 2 ≤ r.length + 1 + 1; omega)]
    rfl
theorem autoL_none {l : Bs} {b : UInt8} {r : Bs} (hl : l = b :: r) (h : look2 v0 v1 v2 v3 l = none) : autoL v0 v1 v2 v3 l = b :: autoL v0 v1 v2 v3 r := by
  subst hl
  rcases r with _ | ⟨c, r⟩
  · rfl
  · unfold look2 at h
    simp only [autoL, h]
theorem autoL_some {l : Bs} {v : ByteArray} (h : look2 v0 v1 v2 v3 l = some v) : ∃ b c r, l = b :: c :: r ∧ autoL v0 v1 v2 v3 l = v.data.toList ++ autoL v0 v1 v2 v3 r := by
  rcases l with _ | ⟨b, _ | ⟨c, r⟩⟩
  · cases h
  · cases h
  · refine ⟨b, c, r, rfl, ?_⟩
    unfold look2 at h
    simp only [autoL, h]

/-- How far the writing stands: t is written, what lies from l to k is to be written as it stands. -/
structure AInv (s : Bs) (t : Bs) (l k : Nat) : Prop where
  lk : l ≤ k
  ls : l ≤ s.length
  ks : k ≤ s.length + 1
  eq : t ++ (s.drop l).take (k - l) ++ autoL v0 v1 v2 v3 (s.drop k) = autoL v0 v1 v2 v3 s
section
variable {v0 v1 v2 v3} {s t : Bs} {l k : Nat}
theorem AInv.start (s : Bs) : AInv v0 v1 v2 v3 s [] 0 0 := ⟨Nat.le_refl _, Nat.zero_le _, Nat.zero_le _, by simp⟩
theorem AInv.skip (h : AInv v0 v1 v2 v3 s t l k) (hk : k < s.length) (hn : look2 v0 v1 v2 v3 (s.drop k) = none) : AInv v0 v1 v2 v3 s t l (k + 1) := by
  have hd : s.drop k = s[k] :: s.drop (k + 1) := (List.drop_eq_getElem_cons hk)
  have h2 := autoL_none v0 v1 v2 v3 hd hn
  have hlk := h.lk
  refine ⟨by omega, h.ls, by omega, ?_⟩
  have := h.eq
  rw [h2] at this
  rw [← this]
  have e1 : (s.drop l).take (k + 1 - l) = (s.drop l).take (k - l) ++ [s[k]] := by
    rw [show k + 1 - l = (k - l) + 1 by omega, List.take_succ_eq_append_getElem (by simp; omega)]
    congr 2
    simp [show l + (k - l) = k by omega]
  rw [e1]
  simp
theorem AInv.last (h : AInv v0 v1 v2 v3 s t l k) (hk : k = s.length) : AInv v0 v1 v2 v3 s t l (k + 1) := by
  have hlk := h.lk
  refine ⟨by omega, h.ls, by omega, ?_⟩
  have := h.eq
  rw [← this]
  rw [List.take_of_length_le (by simp; omega), List.take_of_length_le (by simp; omega), List.drop_of_length_le (show s.length ≤ k + 1 by omega), List.drop_of_length_le (show s.length ≤ k by omega)]
theorem AInv.hit (h : AInv v0 v1 v2 v3 s t l k) {v : ByteArray} (hn : look2 v0 v1 v2 v3 (s.drop k) = some v) : AInv v0 v1 v2 v3 s (t ++ (s.drop l).take (k - l) ++ v.data.toList) (k + 2) (k + 2) ∧ k + 2 ≤ s.length := by
  obtain ⟨b, c, r, e1, e2⟩ := autoL_some v0 v1 v2 v3 hn
  have hl : (s.drop k).length = r.length + 2 := by rw [e1]; rfl
  rw [List.length_drop] at hl
  have hr : s.drop (k + 2) = r := by rw [← List.drop_drop, e1]; rfl
  refine ⟨⟨Nat.le_refl _, by omega, by omega, ?_⟩, by omega⟩
  have := h.eq
  rw [e2] at this
  rw [← this, hr]
  simp
theorem AInv.fin (h : AInv v0 v1 v2 v3 s t l (s.length + 1)) : t ++ s.drop l = autoL v0 v1 v2 v3 s := by
  have := h.eq
  have hlk := h.ls
  rw [List.take_of_length_le (by simp; omega), List.drop_of_length_le (show s.length ≤ s.length + 1 by omega)] at this
  simpa [autoL] using this
theorem AInv.len (h : AInv v0 v1 v2 v3 s t l k) : t.length ≤ (autoL v0 v1 v2 v3 s).length := by rw [← h.eq]; simp
theorem AInv.len2 (h : AInv v0 v1 v2 v3 s t l k) (hk : k ≤ s.length) : t.length + (k - l) ≤ (autoL v0 v1 v2 v3 s).length := by rw [← h.eq]; have := h.lk; simp; omega
end
end
end Go.Proofs.Ytocodapegeajoaa
