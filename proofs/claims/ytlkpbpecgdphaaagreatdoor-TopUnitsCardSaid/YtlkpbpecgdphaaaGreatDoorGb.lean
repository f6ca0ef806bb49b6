/-
  PLAIN WORDS (no program): how long the commands of a group can be.
-/
import Derived.Test.YtlkpbpecgdphaaaGreatDoorGj
import Derived.Test.YtlkpbpecgdphaaaGreatDoorRefAuto
namespace Go.Proofs.YtlkpbpecgdphaaaGreatDoor
open Go

theorem autoL_lenG (v0 v1 v2 v3 : ByteArray) (M : Nat) (h0 : v0.size ≤ M) (h1 : v1.size ≤ M) (h2 : v2.size ≤ M) (h3 : v3.size ≤ M) : ∀ s : Bs, (autoL v0 v1 v2 v3 s).length ≤ s.length * (M + 1)
  | [] => by simp [autoL]
  | [b] => by simp [autoL]
  | b :: c :: r => by
    have ih1 := autoL_lenG v0 v1 v2 v3 M h0 h1 h2 h3 r
    have ih2 := autoL_lenG v0 v1 v2 v3 M h0 h1 h2 h3 (c :: r)
    simp only [autoL]
    split
    · rename_i v hv
      have hvs : v.data.toList.length ≤ M := by
        have e : ∀ x : ByteArray, x.data.toList.length = x.size := fun x => by simp
        rw [e]
        split at hv
        · unfold autoV at hv
          split at hv
          · obtain rfl := Option.some.inj hv; exact h0
          · split at hv
            · obtain rfl := Option.some.inj hv; exact h1
            · split at hv
              · obtain rfl := Option.some.inj hv; exact h2
              · split at hv
                · obtain rfl := Option.some.inj hv; exact h3
                · cases hv
        · cases hv
      rw [List.length_append]
      simp only [List.length_cons, Nat.add_mul] at *
      omega
    · simp only [List.length_cons, Nat.add_mul] at *
      omega
theorem joinB_lenG (M : Nat) : ∀ l : List ByteArray, (∀ x ∈ l, x.size ≤ M) → (joinB l).length ≤ l.length * (M + 1) := by
  intro l
  have key : ∀ m, m ≤ l.length → (∀ x ∈ l, x.size ≤ M) → (joinB (l.take m)).length ≤ m * (M + 1) := by
    intro m
    induction m with
    | zero => intro _ _; simp [joinB, Lib.join_nil]
    | succ m ih =>
      intro hm hx
      have h1 := ih (by omega) hx
      have hg : l[m]? = some (l[m]'(by omega)) := List.getElem?_eq_getElem (by omega)
      have h2 := hx (l[m]'(by omega)) (List.getElem_mem _)
      have e : ∀ x : ByteArray, x.data.toList.length = x.size := fun x => by simp
      rw [joinB_step hg]
      split
      · rw [e, Nat.add_mul]; omega
      · rw [List.length_append, List.length_cons, e, Nat.add_mul]; omega
  intro hx
  have := key l.length (Nat.le_refl _) hx
  rwa [List.take_length] at this
theorem grp_short {cm tg nd : List ByteArray} {stem : ByteArray} (hc : ∀ x ∈ cm, x.size ≤ 1000) (ht : ∀ x ∈ tg, x.size ≤ 1000) (hn : ∀ x ∈ nd, x.size ≤ 2000) (hl : nd.length ≤ 10) (hs : stem.size ≤ 1000) :
    (joinB nd).length ≤ 1000000 ∧ ∀ c ∈ cm, (autoT c tg nd stem).length ≤ 1000000000 := by
  have h1 := joinB_lenG 2000 nd hn
  have h2 : nd.length * (2000 + 1) ≤ 10 * 2001 := Nat.mul_le_mul hl (Nat.le_refl _)
  refine ⟨by omega, fun c h => ?_⟩
  have hh : ∀ (l : List ByteArray) (k : Nat), (∀ x ∈ l, x.size ≤ k) → (headT l).size ≤ k := by
    intro l k h
    unfold headT
    cases l with
    | nil => exact Nat.zero_le _
    | cons x l => exact h x (by simp)
  have h3 := autoL_lenG (headT tg) (headT nd) (ba (joinB nd)) stem 20010 (by have := hh tg 1000 ht; omega) (by have := hh nd 2000 hn; omega) (by rw [ba_size]; omega) (by omega) c.data.toList
  have h4 := hc c h
  have h5 : c.data.toList.length = c.size := by simp
  have h6 : c.data.toList.length * (20010 + 1) ≤ 1000 * 20011 := Nat.mul_le_mul (by omega) (Nat.le_refl _)
  show (autoL _ _ _ _ _).length ≤ _
  omega
end Go.Proofs.YtlkpbpecgdphaaaGreatDoor
