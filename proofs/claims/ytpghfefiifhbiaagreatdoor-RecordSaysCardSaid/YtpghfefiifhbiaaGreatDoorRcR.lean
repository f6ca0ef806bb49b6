/-
  WALK: record.Parse: what it gives of a text.
-/
import Derived.Test.YtpghfefiifhbiaaGreatDoorRcG
import Derived.Test.YtpghfefiifhbiaaGreatDoorApp
import Derived.Deep.LoopGhost
namespace Go.Proofs.YtpghfefiifhbiaaGreatDoor
open Go.RowKit Go.Sort

abbrev tStr : TypeId := 9
abbrev tRec : TypeId := 27
theorem str_parts : ∃ i, Tryz.prog.info? tStr = some i ∧ i.zero = some (.string ByteArray.empty) ∧ i.size = 1 ∧ i.bytes = 16 := by
  have h : (Tryz.prog.info? tStr).map (fun i => (i.zero, i.size, i.bytes)) = some (some (.string ByteArray.empty), 1, 16) := by kernel_rfl
  cases e : Tryz.prog.info? tStr with
  | none => rw [e] at h; cases h
  | some i =>
    rw [e] at h
    simp only [Option.map_some, Option.some.injEq, Prod.mk.injEq] at h
    exact ⟨i, rfl, h.1, h.2.1, h.2.2⟩
theorem rdx_one (w : World) (s : ByteArray) : RdX (w.alloc (.cells #[.string s] tStr)) 1 (some ⟨w.heap.size, 0, none⟩) 1 [.string s] := RdX.new w 1 #[.string s] tStr rfl (by intro u hu; simp at hu; subst hu; rfl)

/-! The head of a record's text, step by step. -/
def h1P (s : Bs) : Option (Nat × Bs) := numS 3 (some s)
def h2S (s : Bs) : St := (sOf (h1P s)).bind (expO 32)
def h2P (s : Bs) : Option (Nat × Bs) := numS 3 (h2S s)
def h3S (s : Bs) : St := (sOf (h2P s)).bind (expO 32)
def h3P (s : Bs) : Option (Nat × Bs) := numS 2 (h3S s)
theorem hd_eq (s : Bs) : hdO s = (h3P s).bind fun c => some (nOf (h1P s), nOf (h2P s), c.1, c.2) := by
  unfold hdO h3P h3S h2P h2S h1P
  show _ = _
  unfold numS
  rw [Option.bind_some]
  cases numO 3 s with
  | none => rfl
  | some a =>
    simp only [sOf, nOf, Option.map_some, Option.bind_some, Option.getD_some]
    cases expO 32 a.2 with
    | none => rfl
    | some s1 =>
      simp only [Option.bind_some]
      cases numO 3 s1 with
      | none => rfl
      | some b =>
        simp only [Option.bind_some, Option.map_some, Option.getD_some]
        cases expO 32 b.2 with
        | none => rfl
        | some s2 => rfl
theorem rec_fin {ok : ByteArray → Bool} {s : Bs} {l0 : List ByteArray} {l1 l2 : List F} {sx sy sz : St}
    (hx : Sofar ((sOf (h3P s)).bind (manyO (txO 300) (nOf (h1P s)))) (nOf (h1P s)) l0 sx) (hy : Sofar (sx.bind (manyO (flO ok) (nOf (h2P s)))) (nOf (h2P s)) l1 sy) (hz : Sofar (sy.bind (manyO (flO ok) (nOf (h3P s)))) (nOf (h3P s)) l2 sz) :
    recO ok s = if sz = some [] then some (l0, l1, l2) else none := by
  obtain ⟨_, x2, x3⟩ := hx
  obtain ⟨_, y2, y3⟩ := hy
  obtain ⟨_, z2, z3⟩ := hz
  unfold recO
  rw [hd_eq]
  cases h3 : h3P s with
  | none =>
    rw [h3] at x2
    have : sx = none := x2
    subst this
    have : sy = none := y2
    subst this
    have : sz = none := z2
    subst this
    rfl
  | some c =>
    rw [h3] at x2 x3 z2 z3
    simp only [Option.bind_some]
    have e1 : nOf (some c) = c.1 := rfl
    rw [e1] at z2 z3
    have e2 : (sOf (some c)).bind (manyO (txO 300) (nOf (h1P s))) = manyO (txO 300) (nOf (h1P s)) c.2 := rfl
    rw [e2] at x2 x3
    cases hX : manyO (txO 300) (nOf (h1P s)) c.2 with
    | none =>
      rw [hX] at x2
      have : sx = none := x2
      subst this
      have : sy = none := y2
      subst this
      have : sz = none := z2
      subst this
      rfl
    | some x =>
      rw [hX] at x2
      have : sx = some x.2 := x2
      subst this
      simp only [Option.bind_some] at y2 y3 ⊢
      cases hY : manyO (flO ok) (nOf (h2P s)) x.2 with
      | none =>
        rw [hY] at y2
        have : sy = none := y2
        subst this
        have : sz = none := z2
        subst this
        rfl
      | some y =>
        rw [hY] at y2
        have : sy = some y.2 := y2
        subst this
        simp only [Option.bind_some] at z2 z3 ⊢
        cases hZ : manyO (flO ok) c.1 y.2 with
        | none =>
          rw [hZ] at z2
          have : sz = none := z2
          subst this
          rfl
        | some z =>
          rw [hZ] at z2
          have : sz = some z.2 := z2
          subst this
          simp only [Option.bind_some]
          rw [x3 x hX, y3 y hY, z3 z hZ]
          by_cases h0 : z.2 = []
          · rw [if_pos h0, if_pos (by rw [h0])]
          · rw [if_neg h0, if_neg (by simpa using h0)]
/-- One text's reading goes on. -/
theorem Sofar.nextT {k : Nat} {l : List ByteArray} {st st0 : St} (h : Sofar (st0.bind (manyO (txO 300) k)) k l st) : Sofar (st0.bind (manyO (txO 300) (k + 1))) (k + 1) (l ++ [tOf (txS 300 st)]) (sOf (txS 300 st)) := by
  obtain ⟨h1, h2, h3⟩ := h
  rw [many_step]
  refine ⟨by rw [List.length_append, h1]; rfl, ?_, fun x hx => ?_⟩
  · cases ho : st0.bind (manyO (txO 300) k) with
    | none => rw [ho] at h2; have e : st = none := h2; subst e; rfl
    | some y =>
      rw [ho] at h2
      have e : st = some y.2 := h2
      subst e
      show sOf (txO 300 y.2) = sOf ((txO 300 y.2).bind _)
      cases txO 300 y.2 <;> rfl
  · cases ho : st0.bind (manyO (txO 300) k) with
    | none => rw [ho] at hx; cases hx
    | some y =>
      rw [ho] at h2 hx
      have e : st = some y.2 := h2
      subst e
      rw [Option.bind_some] at hx
      rw [h3 y ho]
      show y.1 ++ [tOf (txO 300 y.2)] = x.1
      cases h4 : txO 300 y.2 with
      | none => rw [h4] at hx; cases hx
      | some a => rw [h4] at hx; injection hx with hx; rw [← hx]; rfl
theorem Sofar.start {α : Type} (p : Bs → Option (α × Bs)) (st : St) : Sofar (st.bind (manyO p 0)) 0 [] st := ⟨rfl, by cases st <;> rfl, fun x hx => by cases st with | none => cases hx | some s => cases hx; rfl⟩
end Go.Proofs.YtpghfefiifhbiaaGreatDoor
