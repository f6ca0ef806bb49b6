/-
  WORDS: an encoded change is parsed as it was; what TopRow carries along.
-/
import Derived.Test.YtgkenknplepmeaaPar
import Derived.Test.YtgkenknplepmeaaRwD
namespace Go.Proofs.Ytgkenknplepmeaa
open Go.RowKit

theorem keyB_size {p s : ByteArray} (h : keyB p s = true) : s.size ≤ p.size + 8 := by
  unfold keyB at h
  rw [Bool.and_eq_true] at h
  have h2 := h.2
  unfold nameB at h2
  rw [Bool.and_eq_true, decide_eq_true_eq] at h2
  have := h2.1.2
  rw [ByteArray.size_extract] at this
  omega
theorem ckR_key {c : Ch} (h : ckR c = 0) : c.key.size ≤ 10 := by
  unfold ckR at h
  split at h
  · rename_i hc
    rw [Bool.and_eq_true, Bool.or_eq_true] at hc
    rcases hc.1 with h1 | h1
    · exact keyB_size h1
    · exact keyB_size h1
  · cases h
theorem encR_list (c : Ch) : (encR c).data.toList = numF (if c.gone then 1 else 0) 0 :: numF c.key.size 0 :: (c.key.data.toList ++ c.val.data.toList) := by
  unfold encR numR ofBytes
  simp [ByteArray.data_append]
theorem list_eq {a b : ByteArray} (h : a.data.toList = b.data.toList) : a = b := toList_inj (by rw [ByteArray.toList_eq, ByteArray.toList_eq, h])
theorem par_enc {c : Ch} (h : ckR c = 0) : parB (encR c) = true ∧ parC (encR c) = c := by
  have hk := ckR_key h
  have hl := encR_list c
  have hsz : (encR c).size = 2 + c.key.size + c.val.size := by
    show (encR c).data.size = _
    rw [← Array.length_toList, hl]
    simp only [List.length_cons, List.length_append, Array.length_toList]
    show c.key.size + c.val.size + 1 + 1 = _
    omega
  have h0 : by0 (encR c) = if c.gone then 1 else 0 := by
    unfold by0
    rw [Array.getD_eq_getD_getElem?, ← Array.getElem?_toList, hl]
    simp only [List.getElem?_cons_zero, Option.getD_some]
    cases c.gone <;> rfl
  have h1 : by1 (encR c) = c.key.size := by
    unfold by1
    rw [Array.getD_eq_getD_getElem?, ← Array.getElem?_toList, hl]
    simp only [List.getElem?_cons_succ, List.getElem?_cons_zero, Option.getD_some]
    unfold numF
    simp
    omega
  have hc : parC (encR c) = c := by
    obtain ⟨key, val, gone⟩ := c
    unfold parC
    rw [h1, h0]
    simp only at hsz hl hk ⊢
    have e1 : (encR ⟨key, val, gone⟩).extract 2 (2 + key.size) = key := by
      apply list_eq
      rw [ByteArray.data_extract, Array.toList_extract, hl]
      simp only [List.extract_eq_take_drop]
      rw [show 2 + key.size - 2 = key.size by omega]
      simp only [List.drop_succ_cons, List.drop_zero]
      exact List.take_left' rfl
    have e2 : (encR ⟨key, val, gone⟩).extract (2 + key.size) (encR ⟨key, val, gone⟩).size = val := by
      apply list_eq
      rw [ByteArray.data_extract, Array.toList_extract, hl]
      simp only [List.extract_eq_take_drop]
      rw [hsz, show 2 + key.size + val.size - (2 + key.size) = val.size by omega, show 2 + key.size = key.size + 1 + 1 by omega]
      simp only [List.drop_succ_cons]
      rw [show key.size = key.data.toList.length by rw [Array.length_toList]; rfl, List.drop_left]
      exact List.take_of_length_le (by rw [Array.length_toList]; exact Nat.le_refl _)
    rw [e1, e2]
    cases gone <;> rfl
  refine ⟨?_, hc⟩
  unfold parB
  rw [hc, h, h0, h1, hsz]
  simp
  cases c.gone <;> simp <;> omega
theorem enc_fa : encV ⟨⟨#[102, 47, 97]⟩, ⟨#[]⟩, true⟩ = .tuple #[.string ⟨#[1, 3, 102, 47, 97]⟩, .nilIface] := by
  have h : ckR ⟨⟨#[102, 47, 97]⟩, ⟨#[]⟩, true⟩ = 0 := by
    unfold ckR keyB preB
    simp only [ByteArray.toList_eq]
    decide +kernel
  unfold encV
  rw [if_pos h]
  have e : encR ⟨⟨#[102, 47, 97]⟩, ⟨#[]⟩, true⟩ = ⟨#[1, 3, 102, 47, 97]⟩ := list_eq (by rw [encR_list]; rfl)
  rw [e]
theorem RdC.one {w : World} {B b off c k : Nat} {n : Nat} {l : List Ch} {f : Ch} (h : RdC w B (some ⟨b, off, none⟩) n c l) (hf : l[k]? = some f) : RdC w B (some ⟨b, off + k * 3, none⟩) 1 (c - k) [f] := by
  have hl : k < l.length := (List.getElem?_eq_some_iff.1 hf).1
  have h1 := h.1
  have h2 := h.2.1
  have h3 := h.2.2.1
  refine ⟨rfl, by omega, by omega, fun _ => ?_⟩
  obtain ⟨b', off', e, hb, hc⟩ := h.2.2.2 (by omega)
  injection e with e
  injection e with e1 e2
  subst e1 e2
  refine ⟨b, off + k * 3, rfl, hb, fun i g hg => ?_⟩
  cases i with
  | zero =>
    simp at hg
    subst hg
    have := hc k f hf
    simpa using this
  | succ i => simp at hg
/-- Two changes that lie in blocks of their own, and a list of changes. -/
structure TR (w : World) (a b : Ch) (A : Option Addr) (n c : Nat) (l : List Ch) (W : World) : Prop where
  a0 : W.cell? ⟨w.heap.size, 0, none⟩ = some (.string a.key)
  a1 : W.cell? ⟨w.heap.size, 1, none⟩ = some (.string a.val)
  a2 : W.cell? ⟨w.heap.size, 2, none⟩ = some (.bool a.gone)
  b0 : W.cell? ⟨w.heap.size + 1, 0, none⟩ = some (.string b.key)
  b1 : W.cell? ⟨w.heap.size + 1, 1, none⟩ = some (.string b.val)
  b2 : W.cell? ⟨w.heap.size + 1, 2, none⟩ = some (.bool b.gone)
  rd : RdC W w.heap.size A n c l
  bel : Below w.heap.size w W
  sz : w.heap.size + 2 ≤ W.heap.size
section
variable {w W W' : World} {a b : Ch} {A : Option Addr} {n c : Nat} {l : List Ch}
theorem TR.step (h : TR w a b A n c l W) (hb : Below W.heap.size W W') : TR w a b A n c l W' := by
  have hs := h.sz
  have hc0 := fun (o : Nat) => hb.cell (p := ⟨w.heap.size, o, none⟩) (show w.heap.size < W.heap.size by omega)
  have hc1 := fun (o : Nat) => hb.cell (p := ⟨w.heap.size + 1, o, none⟩) (show w.heap.size + 1 < W.heap.size by omega)
  have hbw : Below w.heap.size W W' := hb.mono (by omega)
  exact ⟨(hc0 0).trans h.a0, (hc0 1).trans h.a1, (hc0 2).trans h.a2, (hc1 0).trans h.b0, (hc1 1).trans h.b1, (hc1 2).trans h.b2, h.rd.below hbw, h.bel.trans hbw, by have := hb.size; omega⟩
theorem TR.alloc (h : TR w a b A n c l W) (o : Obj) : TR w a b A n c l (W.alloc o) := h.step ((Below.refl _ _).alloc (Nat.le_refl _) o)
theorem TR.drewN (h : TR w a b A n c l W) (k : Nat) : TR w a b A n c l (W.drewN k) := h.step ⟨rfl, rfl, rfl, Nat.le_refl _, fun _ _ => rfl⟩
theorem TR.drew (h : TR w a b A n c l W) : TR w a b A n c l W.drew := h.drewN 1
theorem TR.start (h : RdC w w.heap.size A n c l) (t : TypeId) : TR w a b A n c l ((w.alloc (.cells #[.string a.key, .string a.val, .bool a.gone] t)).alloc (.cells #[.string b.key, .string b.val, .bool b.gone] t)) := by
  have h1 := StC.new w a.key a.val a.gone t
  have h2 := StC.new (w.alloc (.cells #[.string a.key, .string a.val, .bool a.gone] t)) b.key b.val b.gone t
  have hz : (w.alloc (.cells #[.string a.key, .string a.val, .bool a.gone] t)).heap.size = w.heap.size + 1 := by simp
  have h3 := h1.step ((Below.refl _ (w.alloc (.cells #[.string a.key, .string a.val, .bool a.gone] t))).alloc (Nat.le_refl _) (.cells #[.string b.key, .string b.val, .bool b.gone] t))
  have c0 := h2.c0
  have c1 := h2.c1
  have c2 := h2.c2
  rw [hz] at c0 c1 c2
  exact ⟨h3.c0, h3.c1, h3.c2, c0, c1, c2, h.below h3.b, h3.b, by simp⟩
end
end Go.Proofs.Ytgkenknplepmeaa
