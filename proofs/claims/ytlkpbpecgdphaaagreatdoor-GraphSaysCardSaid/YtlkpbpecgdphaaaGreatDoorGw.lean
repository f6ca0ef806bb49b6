/-
  MEMORY: one group more. WALK: (*graph.walk).given. PLAIN: a visit leaves few groups.
-/
import Derived.Test.YtlkpbpecgdphaaaGreatDoorGfr
import Derived.Test.YtlkpbpecgdphaaaGreatDoorGl
import Derived.Test.YtlkpbpecgdphaaaGreatDoorVar
namespace Go.Proofs.YtlkpbpecgdphaaaGreatDoor
open Go

/-- Rules that share a target have the same targets. -/
def UniqT (m : Mk) : Prop := ∀ r ∈ m.rules, ∀ r' ∈ m.rules, ∀ x, x ∈ r.1 → x ∈ r'.1 → r.1 = r'.1
/-- Of a rule all targets are on the way, or none. -/
def WayOk (m : Mk) (way : List ByteArray) : Prop := ∀ r ∈ m.rules, ∀ x ∈ r.1, x ∈ way → ∀ y ∈ r.1, y ∈ way
section
variable {m : Mk} {l : List F} {name name' x goal : ByteArray} {way : List ByteArray} {g g' : Gp} {out ext : List Gp}
theorem expl_none (h : explO m.rules x = none) : ∀ r ∈ m.rules, x ∉ r.1 := by
  unfold explO at h
  intro r hr hx
  have := List.findIdx?_eq_none_iff.1 h r hr
  rw [inT_mem.2 hx] at this
  cases this
theorem expl_some {r : Ru} (hr : r ∈ m.rules) (hx : x ∈ r.1) : (explO m.rules x).isSome = true := by
  cases h : explO m.rules x with
  | none => exact absurd hx (expl_none h r hr)
  | some i => rfl
theorem way_nil : WayOk m [] := fun _ _ _ _ h => by cases h
theorem way_step (hu : UniqT m) (hw : WayOk m way) (h : grpR m l name = some g) : WayOk m (way ++ g.tg) := by
  intro r hr x hx hxw y hy
  rw [List.mem_append] at hxw ⊢
  rcases hxw with h1 | h1
  · exact .inl (hw r hr x hx h1 y hy)
  · rcases grp_cases h with ⟨r', hr', rfl, hn⟩ | ⟨he, r', hr', rfl, _⟩
    · exact .inr (by show y ∈ r'.1; rw [← hu r hr r' hr' x hx h1]; exact hy)
    · have : x = name := List.mem_singleton.1 h1
      subst this
      exact absurd hx (expl_none he r hr)
theorem tg_fresh (hw : WayOk m way) (h : grpR m l name = some g) (hn : name ∉ way) : ∀ t ∈ g.tg, t ∉ way := by
  intro t ht htw
  rcases grp_cases h with ⟨r', hr', rfl, hn'⟩ | ⟨he, r', hr', rfl, _⟩
  · exact hn (hw r' hr' t ht htw name hn')
  · rw [List.mem_singleton.1 ht] at htw; exact hn htw
theorem grp_tg (h : grpR m l name = some g) : ∀ t ∈ g.tg, (grpR m l t).isSome = true := by
  intro t ht
  rcases grp_cases h with ⟨r', hr', rfl, hn'⟩ | ⟨he, r', hr', rfl, _⟩
  · have := expl_some hr' ht
    unfold grpR
    cases he : explO m.rules t with
    | none => rw [he] at this; cases this
    | some i =>
      unfold explO at he
      obtain ⟨hi, _, _⟩ := List.findIdx?_eq_some_iff_getElem.1 he
      dsimp only
      rw [List.getElem?_eq_getElem hi]
      rfl
  · rw [List.mem_singleton.1 ht, h]; rfl
theorem grp_apart (hu : UniqT m) (h : grpR m l name = some g) (h' : grpR m l name' = some g') (hn : name ∉ g'.tg) : ∀ t ∈ g.tg, t ∉ g'.tg := by
  intro t ht ht'
  rcases grp_cases h with ⟨r, hr, rfl, hnr⟩ | ⟨he, r, hr, rfl, _⟩
  · rcases grp_cases h' with ⟨r', hr', rfl, _⟩ | ⟨he', r', hr', rfl, _⟩
    · exact hn (by show name ∈ r'.1; rw [← hu r hr r' hr' t ht ht']; exact hnr)
    · have : t = name' := List.mem_singleton.1 ht'
      subst this
      exact expl_none he' r hr ht
  · rw [List.mem_singleton.1 ht] at ht'; exact hn ht'
/-- A need or the goal is met: a group makes it, or it is a file that nothing makes. -/
def Met (m : Mk) (l : List F) (out : List Gp) (x : ByteArray) : Prop := (makerO out x).isSome = true ∨ (has l x = true ∧ grpR m l x = none)
structure OutOk (m : Mk) (l : List F) (out : List Gp) : Prop where
  grp : ∀ g ∈ out, ∃ name, grpR m l name = some g
  once : ∀ (i j : Nat) (g g' : Gp), j < i → out[i]? = some g → out[j]? = some g' → ∀ t ∈ g.tg, t ∉ g'.tg
  needs : ∀ (i : Nat) (g : Gp), out[i]? = some g → ∀ x ∈ g.nd, Met m l (out.take i) x
theorem outOk_nil : OutOk m l [] := ⟨fun g h => (by cases h), fun i j g g' _ h => (by simp at h), fun i g h => (by simp at h)⟩
theorem maker_more {i : Nat} (h : makerO out x = some i) (ext : List Gp) : makerO (out ++ ext) x = some i := by
  unfold makerO at h ⊢
  rw [List.findIdx?_append, h]
  rfl
theorem maker_mem : (makerO out x).isSome = true ↔ ∃ g ∈ out, x ∈ g.tg := by
  unfold makerO
  rw [List.findIdx?_isSome, List.any_eq_true]
  exact ⟨fun ⟨g, hg, h⟩ => ⟨g, hg, inT_mem.1 h⟩, fun ⟨g, hg, h⟩ => ⟨g, hg, inT_mem.2 h⟩⟩
theorem Met.more (h : Met m l out x) (ext : List Gp) : Met m l (out ++ ext) x := by
  rcases h with h | h
  · obtain ⟨g, hg, hx⟩ := maker_mem.1 h
    exact .inl (maker_mem.2 ⟨g, List.mem_append_left _ hg, hx⟩)
  · exact .inr h
theorem OutOk.snoc (ho : OutOk m l out) (h : grpR m l name = some g) (hd : ∀ g' ∈ out, ∀ t ∈ g.tg, t ∉ g'.tg) (hn : ∀ x ∈ g.nd, Met m l out x) : OutOk m l (out ++ [g]) := by
  refine ⟨fun g' hg => ?_, fun i j g1 g2 hji h1 h2 => ?_, fun i g1 h1 => ?_⟩
  · rcases List.mem_append.1 hg with hg | hg
    · exact ho.grp g' hg
    · rw [List.mem_singleton.1 hg]; exact ⟨name, h⟩
  · have hi := (List.getElem?_eq_some_iff.1 h1).1
    rw [List.length_append, List.length_singleton] at hi
    rw [List.getElem?_append_left (by omega)] at h2
    rcases Nat.lt_or_ge i out.length with h3 | h3
    · rw [List.getElem?_append_left h3] at h1
      exact ho.once i j g1 g2 hji h1 h2
    · obtain rfl : i = out.length := by omega
      rw [List.getElem?_append_right (Nat.le_refl _)] at h1
      simp at h1
      subst h1
      exact hd g2 (List.mem_of_getElem? h2)
  · rcases Nat.lt_or_ge i out.length with h3 | h3
    · rw [List.getElem?_append_left h3] at h1
      rw [List.take_append_of_le_length (by omega)]
      exact ho.needs i g1 h1
    · have hi := (List.getElem?_eq_some_iff.1 h1).1
      rw [List.length_append, List.length_singleton] at hi
      obtain rfl : i = out.length := by omega
      rw [List.getElem?_append_right (Nat.le_refl _)] at h1
      simp at h1
      subst h1
      rw [List.take_append_of_le_length (Nat.le_refl _), List.take_length]
      exact hn
/-- What a visit that ends well leaves. -/
def Left (m : Mk) (l : List F) (way : List ByteArray) (out : List Gp) (Q : List Gp → Prop) (res : List Gp) : Prop :=
  ∃ ext, res = out ++ ext ∧ (∀ g ∈ ext, ∀ t ∈ g.tg, t ∉ way) ∧ OutOk m l (out ++ ext) ∧ Q (out ++ ext)
theorem needs_left {way' : List ByteArray} {f : ByteArray → List Gp → Nat × List Gp} : ∀ (nd : List ByteArray), (∀ x ∈ nd, ∀ out, OutOk m l out → (f x out).1 = 0 → Left m l way' out (fun o => Met m l o x) (f x out).2) →
    ∀ out, OutOk m l out → (needsR f nd out).1 = 0 → Left m l way' out (fun o => ∀ x ∈ nd, Met m l o x) (needsR f nd out).2 := by
  intro nd
  induction nd with
  | nil => exact fun _ out ho _ => ⟨[], by simp [needsR], by simp, by simpa using ho, fun x hx => by cases hx⟩
  | cons x nd ih =>
    intro hf out ho h0
    unfold needsR at h0 ⊢
    by_cases h1 : (f x out).1 ≠ 0
    · rw [if_pos h1] at h0
      exact absurd h0 h1
    · rw [if_neg h1] at h0 ⊢
      obtain ⟨e1, q1, q2, q3, q4⟩ := hf x (by simp) out ho (by simpa using h1)
      rw [q1] at h0 ⊢
      obtain ⟨e2, p1, p2, p3, p4⟩ := ih (fun y hy => hf y (by simp [hy])) (out ++ e1) q3 h0
      refine ⟨e1 ++ e2, by rw [p1, List.append_assoc], fun g hg => ?_, by rw [← List.append_assoc]; exact p3, fun y hy => ?_⟩
      · rcases List.mem_append.1 hg with hg | hg
        · exact q2 g hg
        · exact p2 g hg
      · rw [← List.append_assoc]
        rcases List.mem_cons.1 hy with rfl | hy
        · exact q4.more e2
        · exact p4 y hy
theorem visit_left (hu : UniqT m) : ∀ (n : Nat) (name : ByteArray) (way : List ByteArray) (out : List Gp), WayOk m way → name ∈ univ m l goal → room (univ m l goal) way < n → OutOk m l out → (visitR m l n name way out).1 = 0 →
    Left m l way out (fun o => Met m l o name) (visitR m l n name way out).2 := by
  intro n
  induction n with
  | zero => intro _ _ _ _ _ h; omega
  | succ n ih =>
    intro name way out hw hU hr ho h0
    unfold visitR at h0 ⊢
    by_cases h1 : inT way name = true
    · rw [if_pos h1] at h0; cases h0
    rw [if_neg h1] at h0 ⊢
    have hnw : name ∉ way := fun h => h1 (inT_mem.2 h)
    by_cases h2 : (makerO out name).isSome = true
    · rw [if_pos h2]
      exact ⟨[], by simp, by simp, by simpa using ho, by simpa using .inl h2⟩
    rw [if_neg h2] at h0 ⊢
    cases hg : grpR m l name with
    | none =>
      rw [hg] at h0
      dsimp only at h0 ⊢
      by_cases h3 : has l name = true
      · rw [if_pos h3]
        exact ⟨[], by simp, by simp, by simpa using ho, by simpa using .inr ⟨h3, hg⟩⟩
      · rw [if_neg h3] at h0; cases h0
    | some g =>
      rw [hg] at h0
      dsimp only at h0 ⊢
      by_cases h3 : (needsR (fun x o => visitR m l n x (way ++ g.tg) o) g.nd out).1 ≠ 0
      · rw [if_pos h3] at h0; exact absurd h0 h3
      rw [if_neg h3] at h0 ⊢
      by_cases h4 : 10 ≤ (needsR (fun x o => visitR m l n x (way ++ g.tg) o) g.nd out).2.length
      · rw [if_pos h4] at h0; cases h0
      rw [if_neg h4]
      obtain ⟨ext, q1, q2, q3, q4⟩ := needs_left (way' := way ++ g.tg) g.nd (fun x hx o hoo ho0 => ih x (way ++ g.tg) o (way_step hu hw hg) (grp_needs hg x hx) (room_need hg hU (by simpa using h1) hr) hoo ho0) out ho (by simpa using h3)
      rw [q1]
      have hd : ∀ g' ∈ out ++ ext, ∀ t ∈ g.tg, t ∉ g'.tg := by
        intro g' hg'
        rcases List.mem_append.1 hg' with hg' | hg'
        · obtain ⟨name', hn'⟩ := ho.grp g' hg'
          exact grp_apart hu hg hn' (fun h => h2 (maker_mem.2 ⟨g', hg', h⟩))
        · exact fun t ht ht' => q2 g' hg' t ht' (List.mem_append_right _ ht)
      refine ⟨ext ++ [g], by rw [List.append_assoc], fun g' hg' t ht => ?_, by rw [← List.append_assoc]; exact q3.snoc hg hd q4, ?_⟩
      · rcases List.mem_append.1 hg' with hg' | hg'
        · exact fun h => q2 g' hg' t ht (List.mem_append_left _ h)
        · rw [List.mem_singleton.1 hg'] at ht
          exact tg_fresh hw hg hnw t ht
      · exact .inl (maker_mem.2 ⟨g, by simp, inT_mem.1 (grp_self hg)⟩)
/-- The last group is the goal's. -/
theorem goal_last {n : Nat} (h0 : (visitR m l (n + 1) goal [] []).1 = 0) : ((visitR m l (n + 1) goal [] []).2 = [] ∧ has l goal = true) ∨ ∃ o g, (visitR m l (n + 1) goal [] []).2 = o ++ [g] ∧ goal ∈ g.tg := by
  unfold visitR at h0 ⊢
  rw [if_neg (by simp [inT])] at h0 ⊢
  rw [if_neg (by simp [makerO])] at h0 ⊢
  cases hg : grpR m l goal with
  | none =>
    rw [hg] at h0
    dsimp only at h0 ⊢
    by_cases h3 : has l goal = true
    · rw [if_pos h3]; exact .inl ⟨rfl, h3⟩
    · rw [if_neg h3] at h0; cases h0
  | some g =>
    rw [hg] at h0
    dsimp only at h0 ⊢
    generalize (needsR (fun x o => visitR m l n x ([] ++ g.tg) o) g.nd []) = z at *
    by_cases h3 : z.1 ≠ 0
    · rw [if_pos h3] at h0; exact absurd h0 h3
    rw [if_neg h3] at h0 ⊢
    by_cases h4 : 10 ≤ z.2.length
    · rw [if_pos h4] at h0; cases h0
    rw [if_neg h4]
    exact .inr ⟨z.2, g, rfl, inT_mem.1 (grp_self hg)⟩
/-- Targets and needs in what is left. -/
theorem OutOk.target (h : OutOk m l out) {i : Nat} (hi : out[i]? = some g) (ht : x ∈ g.tg) : makerO out x = some i := by
  unfold makerO
  have hl := (List.getElem?_eq_some_iff.1 hi).1
  rw [List.findIdx?_eq_some_iff_getElem]
  have e := (List.getElem?_eq_some_iff.1 hi).2
  refine ⟨hl, by rw [e]; exact inT_mem.2 ht, fun j hj => ?_⟩
  intro hx
  exact h.once i j g _ hj hi (List.getElem?_eq_getElem (by omega)) x ht (inT_mem.1 hx)
theorem OutOk.need (h : OutOk m l out) {i : Nat} (hi : out[i]? = some g) (ht : x ∈ g.nd) : (∃ j, makerO out x = some j ∧ j < i) ∨ (makerO out x = none ∧ has l x = true) := by
  rcases h.needs i g hi x ht with h1 | ⟨h1, h2⟩
  · cases hm : makerO (out.take i) x with
    | none => rw [hm] at h1; cases h1
    | some j =>
      refine .inl ⟨j, ?_, ?_⟩
      · have := maker_more hm (out.drop i)
        rwa [List.take_append_drop] at this
      · unfold makerO at hm
        obtain ⟨hj, _⟩ := List.findIdx?_eq_some_iff_getElem.1 hm
        rw [List.length_take] at hj
        omega
  · refine .inr ⟨?_, h1⟩
    cases hm : makerO out x with
    | none => rfl
    | some j =>
      obtain ⟨g', hg', hx⟩ := maker_mem.1 (show (makerO out x).isSome = true by rw [hm]; rfl)
      obtain ⟨nm, hn⟩ := h.grp g' hg'
      have := grp_tg hn x hx
      rw [h2] at this
      cases this
end
theorem needs_len {f : ByteArray → List Gp → Nat × List Gp} (hf : ∀ x out, out.length ≤ 10 → (f x out).2.length ≤ 10) : ∀ nd out, out.length ≤ 10 → (needsR f nd out).2.length ≤ 10 := by
  intro nd
  induction nd with
  | nil => exact fun out h => h
  | cons x nd ih =>
    intro out h
    unfold needsR
    split
    · exact hf x out h
    · exact ih _ (hf x out h)
theorem visit_len {m : Mk} {l : List F} : ∀ (n : Nat) (name : ByteArray) (way : List ByteArray) (out : List Gp), out.length ≤ 10 → (visitR m l n name way out).2.length ≤ 10 := by
  intro n
  induction n with
  | zero => exact fun _ _ _ h => h
  | succ n ih =>
    intro name way out h
    unfold visitR
    split
    · exact h
    · split
      · exact h
      · cases grpR m l name with
        | none => dsimp only; split <;> exact h
        | some g =>
          dsimp only
          have := needs_len (f := fun x o => visitR m l n x (way ++ g.tg) o) (fun x o ho => ih x _ o ho) g.nd out h
          split
          · exact this
          · split
            · exact h
            · rw [List.length_append, List.length_singleton]; omega
end Go.Proofs.YtlkpbpecgdphaaaGreatDoor
namespace Go.Proofs.YtlkpbpecgdphaaaGreatDoor
open Go.RowKit

/-! The set of open names: a name struck off. -/
theorem SetOk.congr {w : World} {bm n : Nat} {L L' : List ByteArray} (h : SetOk w bm n L) (hl : ∀ x, inT L x = inT L' x) : SetOk w bm n L' := by
  obtain ⟨D, ho, hh⟩ := h
  exact ⟨D, ho, fun s hs => by rw [hh s hs, hl]⟩
theorem SetOk.struck {w' : World} {bm n : Nat} {L : List ByteArray} {D : DataW Unit} {s : ByteArray} (hh : ∀ s : ByteArray, s.size ≤ maxLen → D.atKey (.string s.data.toList) (.lit (.bool false)) = .lit (.bool (inT L s)))
    (ho : w'.ownsMap Tryz.prog 9 (plainElem Tryz.prog 4) bm n (D.del (.string s.data.toList))) : SetOk w' bm n (L.filter fun y => !decide (s = y)) := by
  have hf : ∀ x, inT (L.filter fun y => !decide (s = y)) x = (inT L x && !decide (s = x)) := by
    intro x
    rw [Bool.eq_iff_iff, Bool.and_eq_true, inT_mem, inT_mem, List.mem_filter]
  refine ⟨_, ho, fun x hx => ?_⟩
  rw [hf]
  by_cases e : s = x
  · subst e
    rw [Maps.atKey_del_same]
    simp
  · have hne : Lit.string x.data.toList ≠ Lit.string s.data.toList := fun h => e (by injection h with h; rw [← ba_of s, ← ba_of x, h])
    rw [Maps.atKey_del_other hne, hh x hx, decide_eq_false e]
    simp
theorem inT_struck {L : List ByteArray} {s x : ByteArray} : inT (L.filter fun y => !decide (s = y)) x = (inT L x && !decide (s = x)) := by
  rw [Bool.eq_iff_iff, Bool.and_eq_true, inT_mem, inT_mem, List.mem_filter]

theorem RdG4.of_own {w : World} {B : Nat} {v : Value} {R : List Row4} (h : w.ownsRow B tGr 4 v R.length (gcells R)) : ∃ A c, v = .slice A R.length c ∧ RdG4 w w.heap.size A R.length c R := by
  rcases h.2 with ⟨rfl, h0⟩ | ⟨g, cap, cur, rfl, hb, hh, hn, hm, hs, ht⟩
  · rw [h0]
    exact ⟨none, 0, rfl, h0, Nat.le_refl _, Nat.zero_le _, fun h => by omega⟩
  · refine ⟨_, cap, rfl, rfl, hn, hm, fun _ => ⟨g, 0, rfl, (Array.getElem?_eq_some_iff.1 hh).1, fun j u hu => ?_⟩⟩
    have := h.cells (g := g) rfl j u hu
    rwa [Go.WideShapes.add_plain] at this
/-- What the walk reads: rules, phony names, files. -/
structure MRd (w : World) (m : Mk) (l : List F) (vr vp vf : Value) (R : List Row3) : Prop where
  rules : ∃ A c, vr = .slice A R.length c ∧ RdR w w.heap.size A R.length c R
  len : R.length = m.rules.length
  each : ∀ (i : Nat) (x : Row3) (u : Ru), R[i]? = some x → m.rules[i]? = some u → Sl w x.1 u.1 ∧ Sl w x.2.1 u.2.1 ∧ Sl w x.2.2 u.2.2
  phony : Sl w vp m.phony
  files : ∃ A c, vf = .slice A l.length c ∧ RdF w w.heap.size A l.length c l
  mx : MaxOk w
section
variable {w0 w w' : World} {pw bm N : Nat} {m : Mk} {l : List F} {vr vp vf vm vg vg' : Value} {R : List Row3} {way : List ByteArray} {out : List Gp} {R4 : List Row4}
theorem MRd.wk (h : MRd w0 m l vr vp vf R) (hb : Below w0.heap.size w0 w) (hk : Blk w pw tWk #[vr, vp, vf, vm, vg]) : WkRd w pw m l vr vp vf vm vg R := by
  obtain ⟨A, c, e, hr⟩ := h.rules
  obtain ⟨A2, c2, e2, hr2⟩ := h.files
  exact ⟨hk, ⟨A, c, e, hr.belowS hb⟩, h.len, fun i x u hx hu => by obtain ⟨a, b, c⟩ := h.each i x u hx hu; exact ⟨a.belowS hb, b.belowS hb, c.belowS hb⟩, h.phony.belowS hb, ⟨A2, c2, e2, hr2.belowS hb⟩⟩
/-- The walk in memory: it began in w0. -/
structure Wk (w0 w : World) (pw bm : Nat) (vr vp vf vg : Value) (N : Nat) (way : List ByteArray) (out : List Gp) (R4 : List Row4) : Prop where
  low : Below w0.heap.size w0 w
  blk : Blk w pw tWk #[vr, vp, vf, .map (some bm), vg]
  pw_ge : w0.heap.size ≤ pw
  bm_ge : w0.heap.size ≤ bm
  map : ∃ n, n ≤ N ∧ SetOk w bm n way
  grp : w.ownsRow w0.heap.size tGr 4 vg out.length (gcells R4)
  len : R4.length = out.length
  each : ∀ (i : Nat) (x : Row4) (g : Gp), R4[i]? = some x → out[i]? = some g → Own1 w w0.heap.size x.1 g.tg ∧ Own1 w w0.heap.size x.2.1 g.nd ∧ Own1 w w0.heap.size x.2.2.1 g.cm ∧ x.2.2.2 = g.ph
theorem Wk.belowW (h : Wk w0 w pw bm vr vp vf vg N way out R4) (hb : Below w.heap.size w w') : Wk w0 w' pw bm vr vp vf vg N way out R4 :=
  ⟨h.low.trans (hb.mono h.low.size), (hb.block _ h.blk.lt).trans h.blk, h.pw_ge, h.bm_ge, by obtain ⟨n, hn, hs⟩ := h.map; exact ⟨n, hn, hs.below hb⟩, ownsRow_kept h.grp (fun g hg => hb.block g (h.grp.lt g hg).2), h.len,
    fun i x g hx hg => by obtain ⟨a, b, c, e⟩ := h.each i x g hx hg; exact ⟨own1_below a hb, own1_below b hb, own1_below c hb, e⟩⟩
theorem Wk.rd4 (h : Wk w0 w pw bm vr vp vf vg N way out R4) : ∃ A c, vg = .slice A out.length c ∧ GpRd w A out.length c out R4 := by
  have h1 := h.grp
  rw [← h.len] at h1
  obtain ⟨A, c, e, hr⟩ := RdG4.of_own h1
  rw [h.len] at e hr
  exact ⟨A, c, e, hr, rfl, fun i x g hx hg => by obtain ⟨a, b, c, e⟩ := h.each i x g hx hg; exact ⟨Sl.own a, Sl.own b, Sl.own c, e⟩⟩
theorem Wk.bm_map (h : Wk w0 w pw bm vr vp vf vg N way out R4) : ∃ es c, w.heap[bm]? = some (.map es c) := by obtain ⟨n, _, hs⟩ := h.map; exact hs.block
theorem not_cells {es : Array MapEntry} {c : Nat} {t : TypeId} {cs : Array Value} (hm : w.heap[bm]? = some (.map es c)) (hb : Blk w pw t cs) : pw ≠ bm := by
  rintro rfl
  unfold Blk at hb
  rw [hm] at hb
  cases hb
theorem row_not_map {B n s k : Nat} {t : TypeId} {v : Value} {xs : List Value} (h : w.ownsRow B t s v n xs) (hm : ∃ es c, w.heap[bm]? = some (.map es c)) (hk : v.ownBlock = some k) : k ≠ bm := by
  rintro rfl
  obtain ⟨es, c, hm⟩ := hm
  rcases h.2 with ⟨rfl, _⟩ | ⟨g, cap, cur, rfl, _, hg, _⟩
  · cases hk
  · obtain rfl : g = k := by injection hk
    rw [hm] at hg
    cases hg
/-- What a visit may turn: the walk's variable, the map, the groups' row; all else stands. -/
structure Fv (pw bm : Nat) (vg : Value) (w w' : World) : Prop where
  size : w.heap.size ≤ w'.heap.size
  block : ∀ k, k < w.heap.size → k ≠ pw → k ≠ bm → vg.ownBlock ≠ some k → w'.heap[k]? = w.heap[k]?
/-- The groups' row lies where it lay, or it is new. -/
def NewV (w : World) (vg vg' : Value) : Prop := vg'.ownBlock = vg.ownBlock ∨ ∃ k, w.heap.size ≤ k ∧ vg'.ownBlock = some k
theorem Fv.refl (pw bm : Nat) (vg : Value) (w : World) : Fv pw bm vg w w := ⟨Nat.le_refl _, fun _ _ _ _ _ => rfl⟩
theorem NewV.refl (w : World) (vg : Value) : NewV w vg vg := .inl rfl
theorem Fv.below (hb : Below w.heap.size w w') : Fv pw bm vg w w' := ⟨hb.size, fun k hk _ _ _ => hb.block k hk⟩
theorem NewV.trans {w' : World} {v1 v2 v3 : Value} (hs : w.heap.size ≤ w'.heap.size) (h : NewV w v1 v2) (h' : NewV w' v2 v3) : NewV w v1 v3 := by
  rcases h' with h' | ⟨k, hk, h'⟩
  · rcases h with h | ⟨k, hk, h⟩
    · exact .inl (h'.trans h)
    · exact .inr ⟨k, hk, h'.trans h⟩
  · exact .inr ⟨k, Nat.le_trans hs hk, h'⟩
theorem NewV.ne {k : Nat} (h : NewV w vg vg') (hk : k < w.heap.size) (hne : vg.ownBlock ≠ some k) : vg'.ownBlock ≠ some k := by
  rcases h with h | ⟨j, hj, h⟩
  · rw [h]; exact hne
  · rw [h]; intro e; injection e with e; omega
theorem Fv.trans {w'' : World} (h : Fv pw bm vg w w') (hv : NewV w vg vg') (h' : Fv pw bm vg' w' w'') : Fv pw bm vg w w'' :=
  ⟨Nat.le_trans h.size h'.size, fun k hk h1 h2 h3 => (h'.block k (Nat.lt_of_lt_of_le hk h.size) h1 h2 (hv.ne hk h3)).trans (h.block k hk h1 h2 h3)⟩
theorem Own1.fv {B : Nat} {v : Value} {t : List ByteArray} (ho : Own1 w B v t) (h : Wk w0 w pw bm vr vp vf vg N way out R4) (hf : Fv pw bm vg w w') : Own1 w' B v t :=
  ownsRow_kept ho (fun g hg => hf.block g (ho.lt g hg).2 (fun e => row_block_ne ho h.blk (by decide) (by rw [hg, e])) (row_not_map ho h.bm_map hg) (rows_apart ho h.grp (by decide) g hg))
theorem Blk.fv {k : Nat} {t : TypeId} {cs : Array Value} (hb : Blk w k t cs) (h : Wk w0 w pw bm vr vp vf vg N way out R4) (hf : Fv pw bm vg w w') (h1 : k ≠ pw) (h2 : vg.ownBlock ≠ some k) : Blk w' k t cs := by
  obtain ⟨es, c, hm⟩ := h.bm_map
  exact (hf.block k hb.lt h1 (not_cells hm hb) h2).trans hb
end
end Go.Proofs.YtlkpbpecgdphaaaGreatDoor
namespace Go.Proofs.YtlkpbpecgdphaaaGreatDoor
open Go.RowKit

section
variable {w0 w w' : World} {pw bm N N' n' : Nat} {vr vp vf vg vg' : Value} {way way' : List ByteArray} {out : List Gp} {R4 : List Row4}
/-- The map alone has turned. -/
theorem Wk.mapped (h : Wk w0 w pw bm vr vp vf vg N way out R4) (hs : SetOk w' bm n' way') (hn : n' ≤ N') (hg : w.grownBy w' (some bm)) : Wk w0 w' pw bm vr vp vf vg N' way' out R4 := by
  obtain ⟨es, c, hm⟩ := h.bm_map
  have hk : ∀ k, k < w.heap.size → k ≠ bm → w'.heap[k]? = w.heap[k]? := fun k hk hne => hg.block k hk (fun e => hne (by injection e))
  have ho : ∀ (B n s : Nat) (t : TypeId) (v : Value) (xs : List Value), w.ownsRow B t s v n xs → w'.ownsRow B t s v n xs := fun B n s t v xs ho => ownsRow_kept ho (fun g hgv => hk g (ho.lt g hgv).2 (row_not_map ho h.bm_map hgv))
  exact ⟨h.low.grown hg h.low.size (fun g' hg' => by injection hg' with e; rw [← e]; exact h.bm_ge), (hk _ h.blk.lt (not_cells hm h.blk)).trans h.blk, h.pw_ge, h.bm_ge, ⟨n', hn, hs⟩, ho _ _ _ _ _ _ h.grp, h.len,
    fun i x g hx hg => by obtain ⟨a, b, c, e⟩ := h.each i x g hx hg; exact ⟨ho _ _ _ _ _ _ a, ho _ _ _ _ _ _ b, ho _ _ _ _ _ _ c, e⟩⟩
theorem Fv.mapped (hg : w.grownBy w' (some bm)) : Fv pw bm vg w w' := ⟨hg.size, fun k hk _ h2 _ => hg.block k hk (fun e => h2 (by injection e))⟩
theorem Wk.congr (h : Wk w0 w pw bm vr vp vf vg N way out R4) (hl : ∀ x, inT way x = inT way' x) : Wk w0 w pw bm vr vp vf vg N way' out R4 :=
  ⟨h.low, h.blk, h.pw_ge, h.bm_ge, by obtain ⟨n, hn, hs⟩ := h.map; exact ⟨n, hn, hs.congr hl⟩, h.grp, h.len, h.each⟩
theorem Wk.bound (h : Wk w0 w pw bm vr vp vf vg N way out R4) (hN : N ≤ N') : Wk w0 w pw bm vr vp vf vg N' way out R4 :=
  ⟨h.low, h.blk, h.pw_ge, h.bm_ge, by obtain ⟨n, hn, hs⟩ := h.map; exact ⟨n, Nat.le_trans hn hN, hs⟩, h.grp, h.len, h.each⟩
end
/-- What a visit comes to: D bounds the open names' stores. -/
def VsPost (w0 : World) (pw bm : Nat) (vr vp vf : Value) (D : Nat) (way : List ByteArray) (r : Nat × List Gp) (vg : Value) (w : World) (e : Ending) (w' : World) : Prop :=
  e = .returned (errV r.1) ∧ Below w0.heap.size w0 w' ∧ (r.1 = 0 → ∃ vg' R4', Wk w0 w' pw bm vr vp vf vg' (10 * r.2.length + D) way r.2 R4' ∧ Fv pw bm vg w w' ∧ NewV w vg vg')
/-- Few groups, with few targets. -/
def FewG (out : List Gp) : Prop := out.length ≤ 10 ∧ ∀ g ∈ out, g.tg.length ≤ 10
def N1Rel (w0 w : World) (pw bm bx : Nat) (vr vp vf vg : Value) (N : Nat) (way : List ByteArray) (out : List Gp) (R4 : List Row4) (g : Gp) (cs : Array Value) (n : Nat) (i : Value) (wr : World) : Prop :=
  ∃ k : Nat, k ≤ n ∧ i = .int .i64 k ∧ Wk w0 wr pw bm vr vp vf vg (N + k) (way ++ g.tg.take k) out R4 ∧ Blk wr bx tGr cs ∧ Fv pw bm vg w wr
def N2Rel (w0 w : World) (pw bm bx : Nat) (vr vp vf vg : Value) (D : Nat) (way : List ByteArray) (f : ByteArray → List Gp → Nat × List Gp) (out : List Gp) (nd : List ByteArray) (cs : Array Value) (n : Nat) (i : Value) (wr : World) : Prop :=
  ∃ (k : Nat) (vg' : Value) (R4' : List Row4) (out' : List Gp), k ≤ n ∧ i = .int .i64 k ∧ needsR f nd out = needsR f (nd.drop k) out' ∧ FewG out' ∧ Wk w0 wr pw bm vr vp vf vg' (10 * out'.length + D) way out' R4' ∧ Blk wr bx tGr cs ∧ Fv pw bm vg w wr ∧ NewV w vg vg'
def N3Rel (w0 w : World) (pw bm bx : Nat) (vr vp vf vg vg' : Value) (N : Nat) (way : List ByteArray) (out : List Gp) (R4 : List Row4) (g : Gp) (cs : Array Value) (n : Nat) (i : Value) (wr : World) : Prop :=
  ∃ (k : Nat) (L : List ByteArray), k ≤ n ∧ i = .int .i64 k ∧ (∀ x, inT L x = (inT (way ++ g.tg) x && !inT (g.tg.take k) x)) ∧ Wk w0 wr pw bm vr vp vf vg' N L out R4 ∧ Blk wr bx tGr cs ∧ Fv pw bm vg w wr
theorem inT_take {l : List ByteArray} {k : Nat} {s x : ByteArray} (h : l[k]? = some s) : inT (l.take (k + 1)) x = (inT (l.take k) x || decide (s = x)) := by
  rw [List.take_add_one, h]
  exact inT_snoc _ _ _
theorem struck_all {way tg : List ByteArray} (hd : ∀ t ∈ tg, t ∉ way) (x : ByteArray) : (inT (way ++ tg) x && !inT tg x) = inT way x := by
  rw [inT_more]
  cases h : inT tg x with
  | false => simp
  | true =>
    have := hd x (inT_mem.1 h)
    have : inT way x = false := by
      cases h2 : inT way x with
      | false => rfl
      | true => exact absurd (inT_mem.1 h2) this
    simp [this]
theorem errV_zero : errV ((0 : Nat) : Int) = .nilIface := rfl
set_option maxRecDepth 100000 in
set_option maxHeartbeats 8000000 in
theorem visitNeeds_any (w0 : World) (pw bm : Nat) (vr vp vf : Value) (f : ByteArray → List Gp → Nat × List Gp) (D : Nat) (way : List ByteArray) (out : List Gp) (g : Gp) (a b c vg : Value) (R4 : List Row4) (w : World)
    (h : Wk w0 w pw bm vr vp vf vg (10 * out.length + D) way out R4) (ha : Own1 w w0.heap.size a g.tg) (hb : Own1 w w0.heap.size b g.nd) (hf : FewG out) (hD : D ≤ 1000000)
    (l1 : g.tg.length ≤ 10) (l2 : g.nd.length ≤ 10) (s1 : ∀ x ∈ g.tg, x.size ≤ 2000) (hd : ∀ t ∈ g.tg, t ∉ way)
    (hff : ∀ x ∈ g.nd, ∀ o, FewG o → (f x o).1 = 0 → FewG (f x o).2)
    (hV : ∀ x ∈ g.nd, ∀ (o : List Gp) (v : Value) (Q : List Row4) (W : World), FewG o → Wk w0 W pw bm vr vp vf v (10 * o.length + (D + 10)) (way ++ g.tg) o Q → Calls Tryz.prog 37 #[ptr pw, .string x] W (VsPost w0 pw bm vr vp vf (D + 10) (way ++ g.tg) (f x o) v W)) :
    Calls Tryz.prog 69 #[ptr pw, .agg #[a, b, c, .bool g.ph]] w (VsPost w0 pw bm vr vp vf (D + 10) way (needsR f g.nd out) vg w) := by
  obtain ⟨A1, c1, rfl⟩ := own_shape ha
  obtain ⟨A2, c2, rfl⟩ := own_shape hb
  have hvl : ∀ k, vg.ownBlock = some k → k < w.heap.size := fun k hk => (h.grp.lt k hk).2
  have hb0 : Below w.heap.size w (w.alloc (.cells #[.slice A1 g.tg.length c1, .slice A2 g.nd.length c2, c, .bool g.ph] tGr)) := (Below.refl _ _).alloc (Nat.le_refl _) _
  have p0 := Blk.new w tGr #[.slice A1 g.tg.length c1, .slice A2 g.nd.length c2, c, .bool g.ph]
  obtain ⟨r, hr⟩ : ∃ r, r = needsR f g.nd out := ⟨_, rfl⟩
  rw [← hr]
  have HR := Lib.hid hr
  have HK := Lib.hid (h.belowW hb0)
  have HF0 := Lib.hid (show Fv pw bm vg w _ from Fv.below hb0)
  have OA := Lib.hid (own1_below ha hb0)
  have OB := Lib.hid (own1_below hb hb0)
  have P0 := Lib.hid p0
  have HFW := Lib.hid hf
  have S1 := Lib.hid s1
  have HDJ := Lib.hid hd
  have HFF := Lib.hid hff
  have HV := Lib.hid hV
  have HVL := Lib.hid hvl
  have q0 := p0.cell 0
  have hpx : w.heap.size ≠ pw := fun e => by have := h.blk.lt; omega
  clear h ha hb hf s1 hd hff hV hvl hb0 p0 hr
  go_enter Tryz.func69, Tryz.ntmps69
  go_wp2
  generalize w.alloc (.cells #[.slice A1 g.tg.length c1, .slice A2 g.nd.length c2, c, .bool g.ph] tGr) = w1 at *
  go_loopw [15] (fun i wr => N1Rel w0 w1 pw bm w.heap.size vr vp vf vg (10 * out.length + D) way out R4 g #[.slice A1 g.tg.length c1, .slice A2 g.nd.length c2, c, .bool g.ph] g.tg.length i wr) (fun i _ => g.tg.length - (intOf i).toNat)
  case atStart => exact ⟨0, Nat.zero_le _, rfl, by simpa using HK.out, P0.out, Fv.refl _ _ _ _⟩
  case round =>
    obtain ⟨k, hk, rfl, hwk, hbx, hfv⟩ := hrel
    have WK := Lib.hid hwk
    have BX := Lib.hid hbx
    have FV := Lib.hid hfv
    clear hwk hbx hfv
    by_cases hlt : k < g.tg.length
    · obtain ⟨x, hx⟩ : ∃ x, g.tg[k]? = some x := ⟨_, List.getElem?_eq_getElem hlt⟩
      obtain ⟨A', c', e', hr'⟩ := RdS.of_own (Own1.fv OA.out HK.out FV.out)
      injection e' with e1 e2 e3
      subst e1 e3
      obtain ⟨b', off, rfl, _, hcx⟩ := hr'.at_ hx
      have hkz : (k : Int) < (g.tg.length : Int) := by omega
      have hxs : x.size ≤ 2000 := S1.out x (List.mem_of_getElem? hx)
      have c3 : wr.cell? ⟨pw, 3, none⟩ = some (.map (some bm)) := WK.out.blk.cell 3
      obtain ⟨n, hn, hs⟩ := WK.out.map
      have hfl := HFW.out.1
      obtain ⟨w2, hrun, hse2, hg2⟩ := hs.store x (by unfold maxLen; omega) (by unfold maxLen; omega)
      rw [show way ++ g.tg.take k ++ [x] = way ++ g.tg.take (k + 1) by rw [List.take_add_one, hx]; simp] at hse2
      have WK2 := Lib.hid (WK.out.mapped hse2 (show n + 1 ≤ 10 * out.length + D + (k + 1) by omega) hg2)
      obtain ⟨es, cl, hm⟩ := WK.out.bm_map
      have BX2 := Lib.hid (show Blk w2 w.heap.size tGr _ from (hg2.block _ BX.out.lt (fun e => not_cells hm BX.out (by injection e))).trans BX.out)
      have FV2 := Lib.hid (FV.out.trans (NewV.refl _ _) (Fv.mapped hg2))
      clear hr' hx hs hse2 hg2 hm
      go_wp2
      go_roundw
      case rel => exact ⟨k + 1, by omega, by go_num, WK2.out, BX2.out, FV2.out⟩
      case measure => simp [intOf]; omega
    · obtain rfl : k = g.tg.length := by omega
      have hwk := WK.out
      rw [List.take_length] at hwk
      have WK2 := Lib.hid (hwk.bound (show 10 * out.length + D + g.tg.length ≤ 10 * out.length + (D + 10) by omega))
      have q1 : wr.cell? ⟨w.heap.size, 1, none⟩ = some (.slice A2 g.nd.length c2) := BX.out.cell 1
      clear hwk WK
      go_wp2
      go_loopw [28] (fun i wr => N2Rel w0 w1 pw bm w.heap.size vr vp vf vg (D + 10) (way ++ g.tg) f out g.nd #[.slice A1 g.tg.length c1, .slice A2 g.nd.length c2, c, .bool g.ph] g.nd.length i wr) (fun i _ => g.nd.length - (intOf i).toNat)
      case atStart => exact ⟨0, vg, R4, out, Nat.zero_le _, rfl, rfl, HFW.out, WK2.out, BX.out, FV.out, NewV.refl _ _⟩
      case round =>
        obtain ⟨k, vg1, R41, out1, hk2, rfl, hnr, hfw1, hwk, hbx, hfv, hnv⟩ := hrel
        have NR := Lib.hid hnr
        have FW1 := Lib.hid hfw1
        have WK := Lib.hid hwk
        have BX1 := Lib.hid hbx
        have FV1 := Lib.hid hfv
        have NV1 := Lib.hid hnv
        clear hnr hfw1 hwk hbx hfv hnv WK2 BX FV
        by_cases hlt2 : k < g.nd.length
        · obtain ⟨x, hx⟩ : ∃ x, g.nd[k]? = some x := ⟨_, List.getElem?_eq_getElem hlt2⟩
          obtain ⟨A', c', e', hr'⟩ := RdS.of_own (Own1.fv OB.out HK.out FV1.out)
          injection e' with e1 e2 e3
          subst e1 e3
          obtain ⟨b', off, rfl, _, hcx⟩ := hr'.at_ hx
          have hkz : (k : Int) < (g.nd.length : Int) := by omega
          have hxm := List.mem_of_getElem? hx
          have hstep : needsR f (g.nd.drop k) out1 = if (f x out1).1 ≠ 0 then f x out1 else needsR f (g.nd.drop (k + 1)) (f x out1).2 := by
            rw [List.drop_eq_getElem_cons hlt2, show g.nd[k] = x from (List.getElem?_eq_some_iff.1 hx).2]
            rfl
          have ST := Lib.hid hstep
          have HC := Lib.hid (HV.out x hxm out1 vg1 R41 _ FW1.out WK.out)
          have HF1 := Lib.hid (HFF.out x hxm out1 FW1.out)
          clear hr' hx hxm hstep
          go_wp2_with fail
          refine HC.out.mono ?_
          rintro e w2 ⟨rfl, hbl, hok⟩
          by_cases h0 : (f x out1).1 = 0
          · obtain ⟨vg2, R42, hwk2, hfv2, hnv2⟩ := hok h0
            have he : errV ((f x out1).1 : Int) = .nilIface := by rw [h0]; rfl
            rw [he]
            have st := ST.out
            rw [if_neg (by simpa using h0)] at st
            have HN := Lib.hid (NR.out.trans st)
            have hbx2 : w.heap.size ≠ pw := hpx
            have hvb : vg1.ownBlock ≠ some w.heap.size := NV1.out.ne P0.out.lt (fun e => by have := HVL.out _ e; omega)
            have BX2 := Lib.hid (Blk.fv BX1.out WK.out hfv2 hpx hvb)
            have WK2 := Lib.hid hwk2
            have FV2 := Lib.hid (FV1.out.trans NV1.out hfv2)
            have NV2 := Lib.hid (NewV.trans FV1.out.size NV1.out hnv2)
            have HF2 := Lib.hid (HF1.out h0)
            clear hok hbl hwk2 hfv2 hnv2 he st HC ST hvb
            go_wp2
            go_roundw
            case rel => exact ⟨k + 1, vg2, R42, _, by omega, by go_num, HN.out, HF2.out, WK2.out, BX2.out, FV2.out, NV2.out⟩
            case measure => simp [intOf]; omega
          · have he : errV ((f x out1).1 : Int) = .iface 80 (.int .i64 ((f x out1).1 : Int)) := by unfold errV; rw [if_neg (by omega)]
            rw [he]
            have st := ST.out
            rw [if_pos h0] at st
            have HN := Lib.hid (HR.out.trans (NR.out.trans st))
            have HBL := Lib.hid hbl
            clear hok hbl st HC ST
            go_wp2
            go_ret
            refine ⟨?_, HBL.out, fun h => absurd h (by rw [HN.out]; exact h0)⟩
            rw [HN.out, he]
            rfl
        · obtain rfl : k = g.nd.length := by omega
          have hnr := NR.out
          rw [List.drop_length] at hnr
          have HN := Lib.hid (show r = (0, out1) from HR.out.trans hnr)
          have q2 := BX1.out.cell 0
          have q2' : wr.cell? ⟨w.heap.size, 0, none⟩ = some (.slice A1 g.tg.length c1) := q2
          clear hnr q2
          go_wp2
          go_loopw [42] (fun i wr => N3Rel w0 w1 pw bm w.heap.size vr vp vf vg vg1 (10 * out1.length + (D + 10)) way out1 R41 g #[.slice A1 g.tg.length c1, .slice A2 g.nd.length c2, c, .bool g.ph] g.tg.length i wr) (fun i _ => g.tg.length - (intOf i).toNat)
          case atStart => exact ⟨0, way ++ g.tg, Nat.zero_le _, rfl, fun x => by simp [inT], WK.out, BX1.out, FV1.out⟩
          case round =>
            obtain ⟨k, L, hk3, rfl, hlp, hwk, hbx, hfv⟩ := hrel
            have LP := Lib.hid hlp
            have WK3 := Lib.hid hwk
            have BX3 := Lib.hid hbx
            have FV3 := Lib.hid hfv
            clear hlp hwk hbx hfv
            by_cases hlt3 : k < g.tg.length
            · obtain ⟨x, hx⟩ : ∃ x, g.tg[k]? = some x := ⟨_, List.getElem?_eq_getElem hlt3⟩
              obtain ⟨A', c', e', hr'⟩ := RdS.of_own (Own1.fv OA.out HK.out FV3.out)
              injection e' with e1 e2 e3
              subst e1 e3
              obtain ⟨b', off, rfl, _, hcx⟩ := hr'.at_ hx
              have hkz : (k : Int) < (g.tg.length : Int) := by omega
              have hxs : x.size ≤ 2000 := S1.out x (List.mem_of_getElem? hx)
              have c3 : wr.cell? ⟨pw, 3, none⟩ = some (.map (some bm)) := WK3.out.blk.cell 3
              obtain ⟨n, hn, hs⟩ := WK3.out.map
              obtain ⟨M, hown, hh⟩ := hs
              have HH := Lib.hid hh
              have HOW := Lib.hid hown
              have HTK := Lib.hid (fun y => inT_take (x := y) hx)
              have hkey := txtKey x (by unfold maxLen; omega)
              obtain ⟨w2, hrun, hown2, hturn⟩ := HOW.out.drop txtKeyed Tryz.underlying81 hkey 0
              have hg2 := hturn.grown
              have WK4 := Lib.hid (WK3.out.mapped (SetOk.struck HH.out hown2) hn hg2)
              obtain ⟨es, cl, hm⟩ := WK3.out.bm_map
              have BX4 := Lib.hid (show Blk w2 w.heap.size tGr _ from (hg2.block _ BX3.out.lt (fun e => not_cells hm BX3.out (by injection e))).trans BX3.out)
              have FV4 := Lib.hid (FV3.out.trans NV1.out (Fv.mapped hg2))
              clear hown2 hturn hg2 hm HOW HH
              clear hr' hx hh hown
              go_wp2
              go_roundw
              case rel =>
                refine ⟨k + 1, _, by omega, by go_num, fun y => ?_, WK4.out, BX4.out, FV4.out⟩
                rw [inT_struck, LP.out, HTK.out, Bool.not_or, Bool.and_assoc]
              case measure => simp [intOf]; omega
            · obtain rfl : k = g.tg.length := by omega
              have WK4 := Lib.hid (WK3.out.congr (way' := way) (fun x => by rw [LP.out, List.take_length]; exact struck_all HDJ.out x))
              go_wp2
              go_ret
              rw [HN.out]
              exact ⟨rfl, WK4.out.low, fun _ => ⟨vg1, R41, WK4.out, HF0.out.trans (NewV.refl _ _) FV3.out, NewV.trans HF0.out.size (NewV.refl _ _) NV1.out⟩⟩
end Go.Proofs.YtlkpbpecgdphaaaGreatDoor
namespace Go.Proofs.YtlkpbpecgdphaaaGreatDoor
open Go.RowKit

theorem gr_parts : ∃ i z, Tryz.prog.info? tGr = some i ∧ i.zero = some z ∧ i.size = 4 ∧ i.bytes = 80 ∧ z.cells.size = 4 := by
  have h : (Tryz.prog.info? tGr).map (fun i => (i.zero.map (fun z => z.cells.size), i.size, i.bytes)) = some (some 4, 4, 80) := by kernel_rfl
  cases e : Tryz.prog.info? tGr with
  | none => rw [e] at h; cases h
  | some i =>
    rw [e] at h
    simp only [Option.map_some, Option.some.injEq, Prod.mk.injEq] at h
    obtain ⟨h1, h2, h3⟩ := h
    cases hz : i.zero with
    | none => rw [hz] at h1; cases h1
    | some z => rw [hz] at h1; exact ⟨i, z, rfl, hz, h2, h3, by simpa using h1⟩
section
variable {w0 w w5 : World} {pw bm N : Nat} {vr vp vf vg v5 a b c : Value} {way : List ByteArray} {out : List Gp} {R4 : List Row4} {g : Gp}
theorem Wk.more (h : Wk w0 w pw bm vr vp vf vg N way out R4) (ha : Own1 w w0.heap.size a g.tg) (hb : Own1 w w0.heap.size b g.nd) (hc : Own1 w w0.heap.size c g.cm) {W1 : World} (hal : Below w.heap.size w W1)
    (own5 : w5.ownsRow w0.heap.size tGr 4 v5 (out.length + 1) (gcells R4 ++ [a, b, c, .bool g.ph])) (g5 : W1.grownBy w5 vg.ownBlock) (l5 : v5.ownBlock = vg.ownBlock ∨ v5.ownBlock = some W1.heap.size) :
    Wk w0 (w5.setCell ⟨pw, 4, none⟩ v5) pw bm vr vp vf v5 N way (out ++ [g]) (R4 ++ [(a, b, c, g.ph)]) ∧ Fv pw bm vg w (w5.setCell ⟨pw, 4, none⟩ v5) ∧ NewV w vg v5 := by
  obtain ⟨es, cl, hm⟩ := h.bm_map
  have hsz := hal.size
  have hlow : Below w0.heap.size w0 W1 := h.low.trans (hal.mono h.low.size)
  have hpv : vg.ownBlock ≠ some pw := row_block_ne h.grp h.blk (by decide)
  have hk : ∀ k, k < w.heap.size → k ≠ pw → vg.ownBlock ≠ some k → (w5.setCell ⟨pw, 4, none⟩ v5).heap[k]? = w.heap[k]? := fun k hk h1 h2 =>
    (Below.heap_setCell _ _ _ _ h1).trans ((g5.block k (by omega) (fun e => h2 e.symm)).trans (hal.block k hk))
  have hrow : ∀ (v : Value) (t : List ByteArray), Own1 w w0.heap.size v t → Own1 (w5.setCell ⟨pw, 4, none⟩ v5) w0.heap.size v t := fun v t ho =>
    ownsRow_kept ho (fun q hq => hk q (ho.lt q hq).2 (fun e => row_block_ne ho h.blk (by decide) (by rw [hq, e])) (rows_apart ho h.grp (by decide) q hq))
  have hb5 : Blk w5 pw tWk #[vr, vp, vf, .map (some bm), vg] := (g5.block pw (by have := h.blk.lt; omega) (fun e => hpv e.symm)).trans ((hal.block _ h.blk.lt).trans h.blk)
  have hbs : Blk (w5.setCell ⟨pw, 4, none⟩ v5) pw tWk #[vr, vp, vf, .map (some bm), v5] := hb5.set 4 v5
  have hbm : bm < w.heap.size := (Array.getElem?_eq_some_iff.1 hm).1
  have hvm : vg.ownBlock ≠ some bm := fun e => row_not_map h.grp h.bm_map e rfl
  have hmk : (w5.setCell ⟨pw, 4, none⟩ v5).heap[bm]? = w.heap[bm]? := hk bm hbm (fun e => not_cells hm h.blk e.symm) hvm
  refine ⟨⟨?_, hbs, h.pw_ge, h.bm_ge, ?_, ?_, ?_, ?_⟩, ⟨?_, fun k hk1 h1 _ h3 => hk k hk1 h1 h3⟩, ?_⟩
  · exact (hlow.grown g5 hlow.size (fun g' hg' => (h.grp.lt g' hg').1)).setCell (p := ⟨pw, 4, none⟩) h.pw_ge v5
  · obtain ⟨n, hn, D, ⟨es', cl', hm', rest⟩, hh⟩ := h.map
    exact ⟨n, hn, D, ⟨es', cl', hmk.trans hm', rest⟩, hh⟩
  · rw [List.length_append, gcells_append]
    exact own_set own5 (row_block_ne own5 hb5 (by decide))
  · rw [List.length_append, List.length_append, h.len]; rfl
  · intro i x q hx hq
    rcases Nat.lt_or_ge i out.length with h1 | h1
    · rw [List.getElem?_append_left (by rw [h.len]; exact h1)] at hx
      rw [List.getElem?_append_left h1] at hq
      obtain ⟨e1, e2, e3, e4⟩ := h.each i x q hx hq
      exact ⟨hrow _ _ e1, hrow _ _ e2, hrow _ _ e3, e4⟩
    · rw [List.getElem?_append_right (by rw [h.len]; exact h1), h.len] at hx
      rw [List.getElem?_append_right h1] at hq
      have hi : i - out.length = 0 := by
        have := (List.getElem?_eq_some_iff.1 hq).1
        simp at this; omega
      rw [hi] at hx hq
      simp at hx hq
      subst hx hq
      exact ⟨hrow _ _ ha, hrow _ _ hb, hrow _ _ hc, rfl⟩
  · have := g5.size
    show w.heap.size ≤ (w5.setCell ⟨pw, 4, none⟩ v5).heap.size
    have e : (w5.setCell ⟨pw, 4, none⟩ v5).heap.size = w5.heap.size := by simp
    omega
  · rcases l5 with l5 | l5
    · exact .inl l5
    · exact .inr ⟨_, by omega, l5⟩
end
theorem visit_few {m : Mk} {l : List F} (hL : Lim m) : ∀ (n : Nat) (name : ByteArray) (way : List ByteArray) (out : List Gp), FewG out → FewG (visitR m l n name way out).2 := by
  have key : ∀ (n : Nat) (name : ByteArray) (way : List ByteArray) (out : List Gp), (∀ g ∈ out, g.tg.length ≤ 10) → ∀ g ∈ (visitR m l n name way out).2, g.tg.length ≤ 10 := by
    intro n
    induction n with
    | zero => exact fun _ _ _ h => h
    | succ n ih =>
      intro name way out h
      unfold visitR
      split
      · exact h
      · split
        · exact h
        · cases hg : grpR m l name with
          | none => dsimp only; split <;> exact h
          | some g =>
            dsimp only
            have hn : ∀ (f : ByteArray → List Gp → Nat × List Gp), (∀ x o, (∀ g ∈ o, g.tg.length ≤ 10) → ∀ g ∈ (f x o).2, g.tg.length ≤ 10) → ∀ nd o, (∀ g ∈ o, g.tg.length ≤ 10) → ∀ g ∈ (needsR f nd o).2, g.tg.length ≤ 10 := by
              intro f hf nd
              induction nd with
              | nil => exact fun o h => h
              | cons x nd ih2 =>
                intro o h
                unfold needsR
                split
                · exact hf x o h
                · exact ih2 _ (hf x o h)
            have := hn (fun x o => visitR m l n x (way ++ g.tg) o) (fun x o ho => ih x _ o ho) g.nd out h
            split
            · exact this
            · split
              · exact h
              · intro q hq
                rcases List.mem_append.1 hq with hq | hq
                · exact this q hq
                · rw [List.mem_singleton.1 hq]
                  rcases grp_cases hg with ⟨r, hr, rfl, _⟩ | ⟨_, r, hr, rfl, _⟩
                  · exact hL.tgs r hr
                  · show [name].length ≤ 10; simp
  exact fun n name way out h => ⟨visit_len n name way out h.1, key n name way out h.2⟩
set_option maxRecDepth 100000 in
set_option maxHeartbeats 1000000 in
theorem given_any (pw : Nat) (m : Mk) (l : List F) (vr vp vf vm vg : Value) (R : List Row3) (name : ByteArray) (w : World) (h : WkRd w pw m l vr vp vf vm vg R) (hs : Rises l) (hl : l.length ≤ 1000000) :
    Calls Tryz.prog 68 #[ptr pw, .string name] w fun e w' => e = .returned (errV (if has l name = true then 0 else 5)) ∧ Below w.heap.size w w' := by
  obtain ⟨Af, cf, rfl, hrf⟩ := h.files
  have c2 : w.cell? ⟨pw, 2, none⟩ = some (.slice Af l.length cf) := h.blk.cell 2
  have HC := Lib.hid (get_any Af l.length cf l name w hrf hs (by omega))
  generalize has l name = b at *
  clear h hrf hs
  go_enter Tryz.func68, Tryz.ntmps68
  go_wp2_with fail
  refine HC.out.mono ?_
  rintro e w1 ⟨rfl, hb1⟩
  have HB := Lib.hid hb1
  clear hb1
  cases b with
  | true =>
    go_wp2
    go_ret
    exact ⟨rfl, HB.out⟩
  | false =>
    go_wp2
    go_ret
    exact ⟨rfl, HB.out⟩
end Go.Proofs.YtlkpbpecgdphaaaGreatDoor
