/-
  MEMORY: one group more. WALK: (*graph.walk).given. PLAIN: a visit leaves few groups.
-/
import Derived.Test.YtlkpbpecgdphaaaGreatDoorGs
namespace Go.Proofs.YtlkpbpecgdphaaaGreatDoor
open Go.RowKit

theorem gr_parts : ∃ i z, Tryz.prog.info? tGr = some i ∧ i.zero = some z ∧ i.size = 4 ∧ i.bytes = 80 ∧ z.cells.size = 4 := by
  have h : (Tryz.prog.info? tGr).map (fun i => (i.zero.map (fun z => z.cells.size), i.size, i.bytes)) = some (some 4, 4, 80) := by kernel_rfl
  cases e : Tryz.prog.info? tGr with
  | none => rw [e] at h; cases h
  | some i =>
    rw [e] at h
    simp only [Option.map_some, Option.some.injEq, Prod.mk.injEq] at h
    obtain ⟨h1, h2, h3⟩ := h
    cases hz : i.zero with
    | none => rw [hz] at h1; cases h1
    | some z => rw [hz] at h1; exact ⟨i, z, rfl, hz, h2, h3, by simpa using h1⟩
section
variable {w0 w w5 : World} {pw bm N : Nat} {vr vp vf vg v5 a b c : Value} {way : List ByteArray} {out : List Gp} {R4 : List Row4} {g : Gp}
theorem Wk.more (h : Wk w0 w pw bm vr vp vf vg N way out R4) (ha : Own1 w w0.heap.size a g.tg) (hb : Own1 w w0.heap.size b g.nd) (hc : Own1 w w0.heap.size c g.cm) {W1 : World} (hal : Below w.heap.size w W1)
    (own5 : w5.ownsRow w0.heap.size tGr 4 v5 (out.length + 1) (gcells R4 ++ [a, b, c, .bool g.ph])) (g5 : W1.grownBy w5 vg.ownBlock) (l5 : v5.ownBlock = vg.ownBlock ∨ v5.ownBlock = some W1.heap.size) :
    Wk w0 (w5.setCell ⟨pw, 4, none⟩ v5) pw bm vr vp vf v5 N way (out ++ [g]) (R4 ++ [(a, b, c, g.ph)]) ∧ Fv pw bm vg w (w5.setCell ⟨pw, 4, none⟩ v5) ∧ NewV w vg v5 := by
  obtain ⟨es, cl, hm⟩ := h.bm_map
  have hsz := hal.size
  have hlow : Below w0.heap.size w0 W1 := h.low.trans (hal.mono h.low.size)
  have hpv : vg.ownBlock ≠ some pw := row_block_ne h.grp h.blk (by decide)
  have hk : ∀ k, k < w.heap.size → k ≠ pw → vg.ownBlock ≠ some k → (w5.setCell ⟨pw, 4, none⟩ v5).heap[k]? = w.heap[k]? := fun k hk h1 h2 =>
    (Below.heap_setCell _ _ _ _ h1).trans ((g5.block k (by omega) (fun e => h2 e.symm)).trans (hal.block k hk))
  have hrow : ∀ (v : Value) (t : List ByteArray), Own1 w w0.heap.size v t → Own1 (w5.setCell ⟨pw, 4, none⟩ v5) w0.heap.size v t := fun v t ho =>
    ownsRow_kept ho (fun q hq => hk q (ho.lt q hq).2 (fun e => row_block_ne ho h.blk (by decide) (by rw [hq, e])) (rows_apart ho h.grp (by decide) q hq))
  have hb5 : Blk w5 pw tWk #[vr, vp, vf, .map (some bm), vg] := (g5.block pw (by have := h.blk.lt; omega) (fun e => hpv e.symm)).trans ((hal.block _ h.blk.lt).trans h.blk)
  have hbs : Blk (w5.setCell ⟨pw, 4, none⟩ v5) pw tWk #[vr, vp, vf, .map (some bm), v5] := hb5.set 4 v5
  have hbm : bm < w.heap.size := (Array.getElem?_eq_some_iff.1 hm).1
  have hvm : vg.ownBlock ≠ some bm := fun e => row_not_map h.grp h.bm_map e rfl
  have hmk : (w5.setCell ⟨pw, 4, none⟩ v5).heap[bm]? = w.heap[bm]? := hk bm hbm (fun e => not_cells hm h.blk e.symm) hvm
  refine ⟨⟨?_, hbs, h.pw_ge, h.bm_ge, ?_, ?_, ?_, ?_⟩, ⟨?_, fun k hk1 h1 _ h3 => hk k hk1 h1 h3⟩, ?_⟩
  · exact (hlow.grown g5 hlow.size (fun g' hg' => (h.grp.lt g' hg').1)).setCell (p := ⟨pw, 4, none⟩) h.pw_ge v5
  · obtain ⟨n, hn, D, ⟨es', cl', hm', rest⟩, hh⟩ := h.map
    exact ⟨n, hn, D, ⟨es', cl', hmk.trans hm', rest⟩, hh⟩
  · rw [List.length_append, gcells_append]
    exact own_set own5 (row_block_ne own5 hb5 (by decide))
  · rw [List.length_append, List.length_append, h.len]; rfl
  · intro i x q hx hq
    rcases Nat.lt_or_ge i out.length with h1 | h1
    · rw [List.getElem?_append_left (by rw [h.len]; exact h1)] at hx
      rw [List.getElem?_append_left h1] at hq
      obtain ⟨e1, e2, e3, e4⟩ := h.each i x q hx hq
      exact ⟨hrow _ _ e1, hrow _ _ e2, hrow _ _ e3, e4⟩
    · rw [List.getElem?_append_right (by rw [h.len]; exact h1), h.len] at hx
      rw [List.getElem?_append_right h1] at hq
      have hi : i - out.length = 0 := by
        have := (List.getElem?_eq_some_iff.1 hq).1
        simp at this; omega
      rw [hi] at hx hq
      simp at hx hq
      subst hx hq
      exact ⟨hrow _ _ ha, hrow _ _ hb, hrow _ _ hc, rfl⟩
  · have := g5.size
    show w.heap.size ≤ (w5.setCell ⟨pw, 4, none⟩ v5).heap.size
    have e : (w5.setCell ⟨pw, 4, none⟩ v5).heap.size = w5.heap.size := by simp
    omega
  · rcases l5 with l5 | l5
    · exact .inl l5
    · exact .inr ⟨_, by omega, l5⟩
end
theorem visit_few {m : Mk} {l : List F} (hL : Lim m) : ∀ (n : Nat) (name : ByteArray) (way : List ByteArray) (out : List Gp), FewG out → FewG (visitR m l n name way out).2 := by
  have key : ∀ (n : Nat) (name : ByteArray) (way : List ByteArray) (out : List Gp), (∀ g ∈ out, g.tg.length ≤ 10) → ∀ g ∈ (visitR m l n name way out).2, g.tg.length ≤ 10 := by
    intro n
    induction n with
    | zero => exact fun _ _ _ h => h
    | succ n ih =>
      intro name way out h
      unfold visitR
      split
      · exact h
      · split
        · exact h
        · cases hg : grpR m l name with
          | none => dsimp only; split <;> exact h
          | some g =>
            dsimp only
            have hn : ∀ (f : ByteArray → List Gp → Nat × List Gp), (∀ x o, (∀ g ∈ o, g.tg.length ≤ 10) → ∀ g ∈ (f x o).2, g.tg.length ≤ 10) → ∀ nd o, (∀ g ∈ o, g.tg.length ≤ 10) → ∀ g ∈ (needsR f nd o).2, g.tg.length ≤ 10 := by
              intro f hf nd
              induction nd with
              | nil => exact fun o h => h
              | cons x nd ih2 =>
                intro o h
                unfold needsR
                split
                · exact hf x o h
                · exact ih2 _ (hf x o h)
            have := hn (fun x o => visitR m l n x (way ++ g.tg) o) (fun x o ho => ih x _ o ho) g.nd out h
            split
            · exact this
            · split
              · exact h
              · intro q hq
                rcases List.mem_append.1 hq with hq | hq
                · exact this q hq
                · rw [List.mem_singleton.1 hq]
                  rcases grp_cases hg with ⟨r, hr, rfl, _⟩ | ⟨_, r, hr, rfl, _⟩
                  · exact hL.tgs r hr
                  · show [name].length ≤ 10; simp
  exact fun n name way out h => ⟨visit_len n name way out h.1, key n name way out h.2⟩
set_option maxRecDepth 100000 in
set_option maxHeartbeats 1000000 in
theorem given_any (pw : Nat) (m : Mk) (l : List F) (vr vp vf vm vg : Value) (R : List Row3) (name : ByteArray) (w : World) (h : WkRd w pw m l vr vp vf vm vg R) (hs : Rises l) (hl : l.length ≤ 1000000) :
    Calls Tryz.prog 68 #[ptr pw, .string name] w fun e w' => e = .returned (errV (if has l name = true then 0 else 5)) ∧ Below w.heap.size w w' := by
  obtain ⟨Af, cf, rfl, hrf⟩ := h.files
  have c2 : w.cell? ⟨pw, 2, none⟩ = some (.slice Af l.length cf) := h.blk.cell 2
  have HC := Lib.hid (get_any Af l.length cf l name w hrf hs (by omega))
  generalize has l name = b at *
  clear h hrf hs
  go_enter Tryz.func68, Tryz.ntmps68
  go_wp2_with fail
  refine HC.out.mono ?_
  rintro e w1 ⟨rfl, hb1⟩
  have HB := Lib.hid hb1
  clear hb1
  cases b with
  | true =>
    go_wp2
    go_ret
    exact ⟨rfl, HB.out⟩
  | false =>
    go_wp2
    go_ret
    exact ⟨rfl, HB.out⟩
end Go.Proofs.YtlkpbpecgdphaaaGreatDoor
