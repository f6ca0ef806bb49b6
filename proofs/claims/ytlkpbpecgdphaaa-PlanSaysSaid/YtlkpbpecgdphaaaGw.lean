/-
  MEMORY: one group more. WALK: (*graph.walk).given. PLAIN: a visit leaves few groups.
-/
import Derived.Test.YtlkpbpecgdphaaaGf
import Derived.Test.YtlkpbpecgdphaaaGl
import Derived.Test.YtlkpbpecgdphaaaExpText
namespace Go.Proofs.Ytlkpbpecgdphaaa
open Go

theorem count_lt {α : Type} {p p' : α → Bool} (h : ∀ x, p' x = true → p x = true) : ∀ U : List α, (∃ x ∈ U, p x = true ∧ p' x = false) → (U.filter p').length < (U.filter p).length := by
  have hle : ∀ U : List α, (U.filter p').length ≤ (U.filter p).length := by
    intro U
    induction U with
    | nil => simp
    | cons x U ih =>
      simp only [List.filter_cons]
      cases h1 : p' x with
      | true => rw [h x h1]; simpa using ih
      | false => cases p x <;> simp <;> omega
  intro U
  induction U with
  | nil => rintro ⟨x, hx, _⟩; cases hx
  | cons y U ih =>
    rintro ⟨x, hx, h1, h2⟩
    simp only [List.filter_cons]
    rcases List.mem_cons.1 hx with rfl | hx
    · rw [h1, h2]
      have := hle U
      simp; omega
    · have := ih ⟨x, hx, h1, h2⟩
      cases h3 : p' y with
      | true => rw [h y h3]; simpa using this
      | false => cases p y <;> simp <;> omega
/-- How many of these names are not on the way. -/
def room (U way : List ByteArray) : Nat := (U.filter fun x => !inT way x).length
theorem inT_more (a b : List ByteArray) (x : ByteArray) : inT (a ++ b) x = (inT a x || inT b x) := by
  unfold inT
  simp
theorem room_lt {U way tg : List ByteArray} {name : ByteArray} (hU : name ∈ U) (hw : inT way name = false) (ht : inT tg name = true) : room U (way ++ tg) < room U way := by
  refine count_lt (fun x hx => ?_) U ⟨name, hU, by rw [hw]; rfl, by rw [inT_more, ht]; simp⟩
  rw [inT_more] at hx
  cases h : inT way x with
  | true => rw [h] at hx; simp at hx
  | false => rfl
/-- The names that a visit can come to. -/
def univ (m : Mk) (l : List F) (goal : ByteArray) : List ByteArray := goal :: (l.map (·.1) ++ m.rules.flatMap (fun r => r.1 ++ r.2.1))
theorem inT_mem {l : List ByteArray} {x : ByteArray} : inT l x = true ↔ x ∈ l := by simp [inT]
theorem expl_mem {rules : List Ru} {x : ByteArray} (h : (explO rules x).isSome = true) : ∃ r ∈ rules, x ∈ r.1 := by
  unfold explO at h
  rw [List.findIdx?_isSome, List.any_eq_true] at h
  obtain ⟨r, hr, hx⟩ := h
  exact ⟨r, hr, inT_mem.1 hx⟩
/-- What a name's group may be. -/
theorem grp_cases {m : Mk} {l : List F} {name : ByteArray} {g : Gp} (h : grpR m l name = some g) :
    (∃ r ∈ m.rules, g = expG m r ∧ name ∈ r.1) ∨ (explO m.rules name = none ∧ ∃ r ∈ m.rules, g = patG name r ∧ fitsB m.rules l name r = true) := by
  unfold grpR at h
  cases he : explO m.rules name with
  | some i =>
    rw [he] at h
    dsimp only at h
    obtain ⟨r, hr, rfl⟩ := Option.map_eq_some_iff.1 h
    unfold explO at he
    obtain ⟨hi, h2, _⟩ := List.findIdx?_eq_some_iff_getElem.1 he
    have e : r = m.rules[i] := by rw [List.getElem?_eq_getElem hi] at hr; injection hr with hr; exact hr.symm
    exact .inl ⟨r, List.mem_of_getElem? hr, rfl, by rw [e]; exact inT_mem.1 h2⟩
  | none =>
    rw [he] at h
    dsimp only at h
    cases hf : m.rules.findIdx? (fitsB m.rules l name) with
    | none => rw [hf] at h; cases h
    | some i =>
      rw [hf] at h
      dsimp only at h
      obtain ⟨r, hr, rfl⟩ := Option.map_eq_some_iff.1 h
      obtain ⟨hi, h2, _⟩ := List.findIdx?_eq_some_iff_getElem.1 hf
      have e : r = m.rules[i] := by rw [List.getElem?_eq_getElem hi] at hr; injection hr with hr; exact hr.symm
      exact .inr ⟨rfl, r, List.mem_of_getElem? hr, rfl, by rw [e]; exact h2⟩
theorem grp_needs {m : Mk} {l : List F} {name goal : ByteArray} {g : Gp} (h : grpR m l name = some g) : ∀ x ∈ g.nd, x ∈ univ m l goal := by
  rcases grp_cases h with ⟨r, hr, rfl, _⟩ | ⟨_, r, hr, rfl, hf⟩
  · intro x hx
    have hx' : x ∈ r.2.1 := hx
    unfold univ
    exact List.mem_cons_of_mem _ (List.mem_append_right _ (List.mem_flatMap.2 ⟨r, hr, List.mem_append_right _ hx'⟩))
  · unfold fitsB at hf
    rw [Bool.and_eq_true] at hf
    intro x hx
    have hx' : x ∈ fillR r.2.1 (stemR (headT r.1) name).1 := hx
    have := List.all_eq_true.1 hf.2 x hx'
    rw [Bool.or_eq_true] at this
    unfold univ
    rcases this with h1 | h1
    · obtain ⟨f, hf, rfl⟩ := has_iff.1 h1
      exact List.mem_cons_of_mem _ (List.mem_append_left _ (List.mem_map.2 ⟨f, hf, rfl⟩))
    · obtain ⟨r', hr', hx2⟩ := expl_mem h1
      exact List.mem_cons_of_mem _ (List.mem_append_right _ (List.mem_flatMap.2 ⟨r', hr', List.mem_append_left _ hx2⟩))
theorem grp_self {m : Mk} {l : List F} {name : ByteArray} {g : Gp} (h : grpR m l name = some g) : inT g.tg name = true := by
  rcases grp_cases h with ⟨r, hr, rfl, hn⟩ | ⟨_, r, hr, rfl, hf⟩
  · exact inT_mem.2 hn
  · exact inT_mem.2 (List.mem_singleton.2 rfl)
/-- The visit's step: a need has less room. -/
theorem room_need {m : Mk} {l : List F} {goal name : ByteArray} {way : List ByteArray} {g : Gp} {n : Nat} (h : grpR m l name = some g) (hu : name ∈ univ m l goal) (hw : inT way name = false) (hr : room (univ m l goal) way < n + 1) : room (univ m l goal) (way ++ g.tg) < n := by
  have := room_lt hu hw (grp_self h)
  omega
end Go.Proofs.Ytlkpbpecgdphaaa
namespace Go.Proofs.Ytlkpbpecgdphaaa
open Go

/-- Rules that share a target have the same targets. -/
def UniqT (m : Mk) : Prop := ∀ r ∈ m.rules, ∀ r' ∈ m.rules, ∀ x, x ∈ r.1 → x ∈ r'.1 → r.1 = r'.1
/-- Of a rule all targets are on the way, or none. -/
def WayOk (m : Mk) (way : List ByteArray) : Prop := ∀ r ∈ m.rules, ∀ x ∈ r.1, x ∈ way → ∀ y ∈ r.1, y ∈ way
section
variable {m : Mk} {l : List F} {name name' x goal : ByteArray} {way : List ByteArray} {g g' : Gp} {out ext : List Gp}
theorem expl_none (h : explO m.rules x = none) : ∀ r ∈ m.rules, x ∉ r.1 := by
  unfold explO at h
  intro r hr hx
  have := List.findIdx?_eq_none_iff.1 h r hr
  rw [inT_mem.2 hx] at this
  cases this
theorem expl_some {r : Ru} (hr : r ∈ m.rules) (hx : x ∈ r.1) : (explO m.rules x).isSome = true := by
  cases h : explO m.rules x with
  | none => exact absurd hx (expl_none h r hr)
  | some i => rfl
theorem way_nil : WayOk m [] := fun _ _ _ _ h => by cases h
theorem way_step (hu : UniqT m) (hw : WayOk m way) (h : grpR m l name = some g) : WayOk m (way ++ g.tg) := by
  intro r hr x hx hxw y hy
  rw [List.mem_append] at hxw ⊢
  rcases hxw with h1 | h1
  · exact .inl (hw r hr x hx h1 y hy)
  · rcases grp_cases h with ⟨r', hr', rfl, hn⟩ | ⟨he, r', hr', rfl, _⟩
    · exact .inr (by show y ∈ r'.1; rw [← hu r hr r' hr' x hx h1]; exact hy)
    · have : x = name := List.mem_singleton.1 h1
      subst this
      exact absurd hx (expl_none he r hr)
theorem tg_fresh (hw : WayOk m way) (h : grpR m l name = some g) (hn : name ∉ way) : ∀ t ∈ g.tg, t ∉ way := by
  intro t ht htw
  rcases grp_cases h with ⟨r', hr', rfl, hn'⟩ | ⟨he, r', hr', rfl, _⟩
  · exact hn (hw r' hr' t ht htw name hn')
  · rw [List.mem_singleton.1 ht] at htw; exact hn htw
theorem grp_tg (h : grpR m l name = some g) : ∀ t ∈ g.tg, (grpR m l t).isSome = true := by
  intro t ht
  rcases grp_cases h with ⟨r', hr', rfl, hn'⟩ | ⟨he, r', hr', rfl, _⟩
  · have := expl_some hr' ht
    unfold grpR
    cases he : explO m.rules t with
    | none => rw [he] at this; cases this
    | some i =>
      unfold explO at he
      obtain ⟨hi, _, _⟩ := List.findIdx?_eq_some_iff_getElem.1 he
      dsimp only
      rw [List.getElem?_eq_getElem hi]
      rfl
  · rw [List.mem_singleton.1 ht, h]; rfl
theorem grp_apart (hu : UniqT m) (h : grpR m l name = some g) (h' : grpR m l name' = some g') (hn : name ∉ g'.tg) : ∀ t ∈ g.tg, t ∉ g'.tg := by
  intro t ht ht'
  rcases grp_cases h with ⟨r, hr, rfl, hnr⟩ | ⟨he, r, hr, rfl, _⟩
  · rcases grp_cases h' with ⟨r', hr', rfl, _⟩ | ⟨he', r', hr', rfl, _⟩
    · exact hn (by show name ∈ r'.1; rw [← hu r hr r' hr' t ht ht']; exact hnr)
    · have : t = name' := List.mem_singleton.1 ht'
      subst this
      exact expl_none he' r hr ht
  · rw [List.mem_singleton.1 ht] at ht'; exact hn ht'
/-- A need or the goal is met: a group makes it, or it is a file that nothing makes. -/
def Met (m : Mk) (l : List F) (out : List Gp) (x : ByteArray) : Prop := (makerO out x).isSome = true ∨ (has l x = true ∧ grpR m l x = none)
structure OutOk (m : Mk) (l : List F) (out : List Gp) : Prop where
  grp : ∀ g ∈ out, ∃ name, grpR m l name = some g
  once : ∀ (i j : Nat) (g g' : Gp), j < i → out[i]? = some g → out[j]? = some g' → ∀ t ∈ g.tg, t ∉ g'.tg
  needs : ∀ (i : Nat) (g : Gp), out[i]? = some g → ∀ x ∈ g.nd, Met m l (out.take i) x
theorem outOk_nil : OutOk m l [] := ⟨fun g h => (by cases h), fun i j g g' _ h => (by simp at h), fun i g h => (by simp at h)⟩
theorem maker_more {i : Nat} (h : makerO out x = some i) (ext : List Gp) : makerO (out ++ ext) x = some i := by
  unfold makerO at h ⊢
  rw [List.findIdx?_append, h]
  rfl
theorem maker_mem : (makerO out x).isSome = true ↔ ∃ g ∈ out, x ∈ g.tg := by
  unfold makerO
  rw [List.findIdx?_isSome, List.any_eq_true]
  exact ⟨fun ⟨g, hg, h⟩ => ⟨g, hg, inT_mem.1 h⟩, fun ⟨g, hg, h⟩ => ⟨g, hg, inT_mem.2 h⟩⟩
theorem Met.more (h : Met m l out x) (ext : List Gp) : Met m l (out ++ ext) x := by
  rcases h with h | h
  · obtain ⟨g, hg, hx⟩ := maker_mem.1 h
    exact .inl (maker_mem.2 ⟨g, List.mem_append_left _ hg, hx⟩)
  · exact .inr h
theorem OutOk.snoc (ho : OutOk m l out) (h : grpR m l name = some g) (hd : ∀ g' ∈ out, ∀ t ∈ g.tg, t ∉ g'.tg) (hn : ∀ x ∈ g.nd, Met m l out x) : OutOk m l (out ++ [g]) := by
  refine ⟨fun g' hg => ?_, fun i j g1 g2 hji h1 h2 => ?_, fun i g1 h1 => ?_⟩
  · rcases List.mem_append.1 hg with hg | hg
    · exact ho.grp g' hg
    · rw [List.mem_singleton.1 hg]; exact ⟨name, h⟩
  · have hi := (List.getElem?_eq_some_iff.1 h1).1
    rw [List.length_append, List.length_singleton] at hi
    rw [List.getElem?_append_left (by omega)] at h2
    rcases Nat.lt_or_ge i out.length with h3 | h3
    · rw [List.getElem?_append_left h3] at h1
      exact ho.once i j g1 g2 hji h1 h2
    · obtain rfl : i = out.length := by omega
      rw [List.getElem?_append_right (Nat.le_refl _)] at h1
      simp at h1
      subst h1
      exact hd g2 (List.mem_of_getElem? h2)
  · rcases Nat.lt_or_ge i out.length with h3 | h3
    · rw [List.getElem?_append_left h3] at h1
      rw [List.take_append_of_le_length (by omega)]
      exact ho.needs i g1 h1
    · have hi := (List.getElem?_eq_some_iff.1 h1).1
      rw [List.length_append, List.length_singleton] at hi
      obtain rfl : i = out.length := by omega
      rw [List.getElem?_append_right (Nat.le_refl _)] at h1
      simp at h1
      subst h1
      rw [List.take_append_of_le_length (Nat.le_refl _), List.take_length]
      exact hn
/-- What a visit that ends well leaves. -/
def Left (m : Mk) (l : List F) (way : List ByteArray) (out : List Gp) (Q : List Gp → Prop) (res : List Gp) : Prop :=
  ∃ ext, res = out ++ ext ∧ (∀ g ∈ ext, ∀ t ∈ g.tg, t ∉ way) ∧ OutOk m l (out ++ ext) ∧ Q (out ++ ext)
theorem needs_left {way' : List ByteArray} {f : ByteArray → List Gp → Nat × List Gp} : ∀ (nd : List ByteArray), (∀ x ∈ nd, ∀ out, OutOk m l out → (f x out).1 = 0 → Left m l way' out (fun o => Met m l o x) (f x out).2) →
    ∀ out, OutOk m l out → (needsR f nd out).1 = 0 → Left m l way' out (fun o => ∀ x ∈ nd, Met m l o x) (needsR f nd out).2 := by
  intro nd
  induction nd with
  | nil => exact fun _ out ho _ => ⟨[], by simp [needsR], by simp, by simpa using ho, fun x hx => by cases hx⟩
  | cons x nd ih =>
    intro hf out ho h0
    unfold needsR at h0 ⊢
    by_cases h1 : (f x out).1 ≠ 0
    · rw [if_pos h1] at h0
      exact absurd h0 h1
    · rw [if_neg h1] at h0 ⊢
      obtain ⟨e1, q1, q2, q3, q4⟩ := hf x (by simp) out ho (by simpa using h1)
      rw [q1] at h0 ⊢
      obtain ⟨e2, p1, p2, p3, p4⟩ := ih (fun y hy => hf y (by simp [hy])) (out ++ e1) q3 h0
      refine ⟨e1 ++ e2, by rw [p1, List.append_assoc], fun g hg => ?_, by rw [← List.append_assoc]; exact p3, fun y hy => ?_⟩
      · rcases List.mem_append.1 hg with hg | hg
        · exact q2 g hg
        · exact p2 g hg
      · rw [← List.append_assoc]
        rcases List.mem_cons.1 hy with rfl | hy
        · exact q4.more e2
        · exact p4 y hy
theorem visit_left (hu : UniqT m) : ∀ (n : Nat) (name : ByteArray) (way : List ByteArray) (out : List Gp), WayOk m way → name ∈ univ m l goal → room (univ m l goal) way < n → OutOk m l out → (visitR m l n name way out).1 = 0 →
    Left m l way out (fun o => Met m l o name) (visitR m l n name way out).2 := by
  intro n
  induction n with
  | zero => intro _ _ _ _ _ h; omega
  | succ n ih =>
    intro name way out hw hU hr ho h0
    unfold visitR at h0 ⊢
    by_cases h1 : inT way name = true
    · rw [if_pos h1] at h0; cases h0
    rw [if_neg h1] at h0 ⊢
    have hnw : name ∉ way := fun h => h1 (inT_mem.2 h)
    by_cases h2 : (makerO out name).isSome = true
    · rw [if_pos h2]
      exact ⟨[], by simp, by simp, by simpa using ho, by simpa using .inl h2⟩
    rw [if_neg h2] at h0 ⊢
    cases hg : grpR m l name with
    | none =>
      rw [hg] at h0
      dsimp only at h0 ⊢
      by_cases h3 : has l name = true
      · rw [if_pos h3]
        exact ⟨[], by simp, by simp, by simpa using ho, by simpa using .inr ⟨h3, hg⟩⟩
      · rw [if_neg h3] at h0; cases h0
    | some g =>
      rw [hg] at h0
      dsimp only at h0 ⊢
      by_cases h3 : (needsR (fun x o => visitR m l n x (way ++ g.tg) o) g.nd out).1 ≠ 0
      · rw [if_pos h3] at h0; exact absurd h0 h3
      rw [if_neg h3] at h0 ⊢
      by_cases h4 : 10 ≤ (needsR (fun x o => visitR m l n x (way ++ g.tg) o) g.nd out).2.length
      · rw [if_pos h4] at h0; cases h0
      rw [if_neg h4]
      obtain ⟨ext, q1, q2, q3, q4⟩ := needs_left (way' := way ++ g.tg) g.nd (fun x hx o hoo ho0 => ih x (way ++ g.tg) o (way_step hu hw hg) (grp_needs hg x hx) (room_need hg hU (by simpa using h1) hr) hoo ho0) out ho (by simpa using h3)
      rw [q1]
      have hd : ∀ g' ∈ out ++ ext, ∀ t ∈ g.tg, t ∉ g'.tg := by
        intro g' hg'
        rcases List.mem_append.1 hg' with hg' | hg'
        · obtain ⟨name', hn'⟩ := ho.grp g' hg'
          exact grp_apart hu hg hn' (fun h => h2 (maker_mem.2 ⟨g', hg', h⟩))
        · exact fun t ht ht' => q2 g' hg' t ht' (List.mem_append_right _ ht)
      refine ⟨ext ++ [g], by rw [List.append_assoc], fun g' hg' t ht => ?_, by rw [← List.append_assoc]; exact q3.snoc hg hd q4, ?_⟩
      · rcases List.mem_append.1 hg' with hg' | hg'
        · exact fun h => q2 g' hg' t ht (List.mem_append_left _ h)
        · rw [List.mem_singleton.1 hg'] at ht
          exact tg_fresh hw hg hnw t ht
      · exact .inl (maker_mem.2 ⟨g, by simp, inT_mem.1 (grp_self hg)⟩)
/-- The last group is the goal's. -/
theorem goal_last {n : Nat} (h0 : (visitR m l (n + 1) goal [] []).1 = 0) : ((visitR m l (n + 1) goal [] []).2 = [] ∧ has l goal = true) ∨ ∃ o g, (visitR m l (n + 1) goal [] []).2 = o ++ [g] ∧ goal ∈ g.tg := by
  unfold visitR at h0 ⊢
  rw [if_neg (by simp [inT])] at h0 ⊢
  rw [if_neg (by simp [makerO])] at h0 ⊢
  cases hg : grpR m l goal with
  | none =>
    rw [hg] at h0
    dsimp only at h0 ⊢
    by_cases h3 : has l goal = true
    · rw [if_pos h3]; exact .inl ⟨rfl, h3⟩
    · rw [if_neg h3] at h0; cases h0
  | some g =>
    rw [hg] at h0
    dsimp only at h0 ⊢
    generalize (needsR (fun x o => visitR m l n x ([] ++ g.tg) o) g.nd []) = z at *
    by_cases h3 : z.1 ≠ 0
    · rw [if_pos h3] at h0; exact absurd h0 h3
    rw [if_neg h3] at h0 ⊢
    by_cases h4 : 10 ≤ z.2.length
    · rw [if_pos h4] at h0; cases h0
    rw [if_neg h4]
    exact .inr ⟨z.2, g, rfl, inT_mem.1 (grp_self hg)⟩
/-- Targets and needs in what is left. -/
theorem OutOk.target (h : OutOk m l out) {i : Nat} (hi : out[i]? = some g) (ht : x ∈ g.tg) : makerO out x = some i := by
  unfold makerO
  have hl := (List.getElem?_eq_some_iff.1 hi).1
  rw [List.findIdx?_eq_some_iff_getElem]
  have e := (List.getElem?_eq_some_iff.1 hi).2
  refine ⟨hl, by rw [e]; exact inT_mem.2 ht, fun j hj => ?_⟩
  intro hx
  exact h.once i j g _ hj hi (List.getElem?_eq_getElem (by omega)) x ht (inT_mem.1 hx)
theorem OutOk.need (h : OutOk m l out) {i : Nat} (hi : out[i]? = some g) (ht : x ∈ g.nd) : (∃ j, makerO out x = some j ∧ j < i) ∨ (makerO out x = none ∧ has l x = true) := by
  rcases h.needs i g hi x ht with h1 | ⟨h1, h2⟩
  · cases hm : makerO (out.take i) x with
    | none => rw [hm] at h1; cases h1
    | some j =>
      refine .inl ⟨j, ?_, ?_⟩
      · have := maker_more hm (out.drop i)
        rwa [List.take_append_drop] at this
      · unfold makerO at hm
        obtain ⟨hj, _⟩ := List.findIdx?_eq_some_iff_getElem.1 hm
        rw [List.length_take] at hj
        omega
  · refine .inr ⟨?_, h1⟩
    cases hm : makerO out x with
    | none => rfl
    | some j =>
      obtain ⟨g', hg', hx⟩ := maker_mem.1 (show (makerO out x).isSome = true by rw [hm]; rfl)
      obtain ⟨nm, hn⟩ := h.grp g' hg'
      have := grp_tg hn x hx
      rw [h2] at this
      cases this
end
theorem needs_len {f : ByteArray → List Gp → Nat × List Gp} (hf : ∀ x out, out.length ≤ 10 → (f x out).2.length ≤ 10) : ∀ nd out, out.length ≤ 10 → (needsR f nd out).2.length ≤ 10 := by
  intro nd
  induction nd with
  | nil => exact fun out h => h
  | cons x nd ih =>
    intro out h
    unfold needsR
    split
    · exact hf x out h
    · exact ih _ (hf x out h)
theorem visit_len {m : Mk} {l : List F} : ∀ (n : Nat) (name : ByteArray) (way : List ByteArray) (out : List Gp), out.length ≤ 10 → (visitR m l n name way out).2.length ≤ 10 := by
  intro n
  induction n with
  | zero => exact fun _ _ _ h => h
  | succ n ih =>
    intro name way out h
    unfold visitR
    split
    · exact h
    · split
      · exact h
      · cases grpR m l name with
        | none => dsimp only; split <;> exact h
        | some g =>
          dsimp only
          have := needs_len (f := fun x o => visitR m l n x (way ++ g.tg) o) (fun x o ho => ih x _ o ho) g.nd out h
          split
          · exact this
          · split
            · exact h
            · rw [List.length_append, List.length_singleton]; omega
end Go.Proofs.Ytlkpbpecgdphaaa
namespace Go.Proofs.Ytlkpbpecgdphaaa
open Go.RowKit

/-! The set of open names: a name struck off. -/
theorem SetOk.congr {w : World} {bm n : Nat} {L L' : List ByteArray} (h : SetOk w bm n L) (hl : ∀ x, inT L x = inT L' x) : SetOk w bm n L' := by
  obtain ⟨D, ho, hh⟩ := h
  exact ⟨D, ho, fun s hs => by rw [hh s hs, hl]⟩
theorem SetOk.struck {w' : World} {bm n : Nat} {L : List ByteArray} {D : DataW Unit} {s : ByteArray} (hh : ∀ s : ByteArray, s.size ≤ maxLen → D.atKey (.string s.data.toList) (.lit (.bool false)) = .lit (.bool (inT L s)))
    (ho : w'.ownsMap Try.prog 9 (plainElem Try.prog 4) bm n (D.del (.string s.data.toList))) : SetOk w' bm n (L.filter fun y => !decide (s = y)) := by
  have hf : ∀ x, inT (L.filter fun y => !decide (s = y)) x = (inT L x && !decide (s = x)) := by
    intro x
    rw [Bool.eq_iff_iff, Bool.and_eq_true, inT_mem, inT_mem, List.mem_filter]
  refine ⟨_, ho, fun x hx => ?_⟩
  rw [hf]
  by_cases e : s = x
  · subst e
    rw [Maps.atKey_del_same]
    simp
  · have hne : Lit.string x.data.toList ≠ Lit.string s.data.toList := fun h => e (by injection h with h; rw [← ba_of s, ← ba_of x, h])
    rw [Maps.atKey_del_other hne, hh x hx, decide_eq_false e]
    simp
theorem inT_struck {L : List ByteArray} {s x : ByteArray} : inT (L.filter fun y => !decide (s = y)) x = (inT L x && !decide (s = x)) := by
  rw [Bool.eq_iff_iff, Bool.and_eq_true, inT_mem, inT_mem, List.mem_filter]

theorem RdG4.of_own {w : World} {B : Nat} {v : Value} {R : List Row4} (h : w.ownsRow B tGr 4 v R.length (gcells R)) : ∃ A c, v = .slice A R.length c ∧ RdG4 w w.heap.size A R.length c R := by
  rcases h.2 with ⟨rfl, h0⟩ | ⟨g, cap, cur, rfl, hb, hh, hn, hm, hs, ht⟩
  · rw [h0]
    exact ⟨none, 0, rfl, h0, Nat.le_refl _, Nat.zero_le _, fun h => by omega⟩
  · refine ⟨_, cap, rfl, rfl, hn, hm, fun _ => ⟨g, 0, rfl, (Array.getElem?_eq_some_iff.1 hh).1, fun j u hu => ?_⟩⟩
    have := h.cells (g := g) rfl j u hu
    rwa [Go.WideShapes.add_plain] at this
section
variable {w0 w w' : World} {pw bm N : Nat} {m : Mk} {l : List F} {vr vp vf vm vg vg' : Value} {R : List Row3} {way : List ByteArray} {out : List Gp} {R4 : List Row4}
theorem not_cells {es : Array MapEntry} {c : Nat} {t : TypeId} {cs : Array Value} (hm : w.heap[bm]? = some (.map es c)) (hb : Blk w pw t cs) : pw ≠ bm := by
  rintro rfl
  unfold Blk at hb
  rw [hm] at hb
  cases hb
theorem row_not_map {B n s k : Nat} {t : TypeId} {v : Value} {xs : List Value} (h : w.ownsRow B t s v n xs) (hm : ∃ es c, w.heap[bm]? = some (.map es c)) (hk : v.ownBlock = some k) : k ≠ bm := by
  rintro rfl
  obtain ⟨es, c, hm⟩ := hm
  rcases h.2 with ⟨rfl, _⟩ | ⟨g, cap, cur, rfl, _, hg, _⟩
  · cases hk
  · obtain rfl : g = k := by injection hk
    rw [hm] at hg
    cases hg
/-- What a visit may turn: the walk's variable, the map, the groups' row; all else stands. -/
structure Fv (pw bm : Nat) (vg : Value) (w w' : World) : Prop where
  size : w.heap.size ≤ w'.heap.size
  block : ∀ k, k < w.heap.size → k ≠ pw → k ≠ bm → vg.ownBlock ≠ some k → w'.heap[k]? = w.heap[k]?
/-- The groups' row lies where it lay, or it is new. -/
def NewV (w : World) (vg vg' : Value) : Prop := vg'.ownBlock = vg.ownBlock ∨ ∃ k, w.heap.size ≤ k ∧ vg'.ownBlock = some k
theorem Fv.refl (pw bm : Nat) (vg : Value) (w : World) : Fv pw bm vg w w := ⟨Nat.le_refl _, fun _ _ _ _ _ => rfl⟩
theorem NewV.refl (w : World) (vg : Value) : NewV w vg vg := .inl rfl
theorem Fv.below (hb : Below w.heap.size w w') : Fv pw bm vg w w' := ⟨hb.size, fun k hk _ _ _ => hb.block k hk⟩
theorem NewV.trans {w' : World} {v1 v2 v3 : Value} (hs : w.heap.size ≤ w'.heap.size) (h : NewV w v1 v2) (h' : NewV w' v2 v3) : NewV w v1 v3 := by
  rcases h' with h' | ⟨k, hk, h'⟩
  · rcases h with h | ⟨k, hk, h⟩
    · exact .inl (h'.trans h)
    · exact .inr ⟨k, hk, h'.trans h⟩
  · exact .inr ⟨k, Nat.le_trans hs hk, h'⟩
theorem NewV.ne {k : Nat} (h : NewV w vg vg') (hk : k < w.heap.size) (hne : vg.ownBlock ≠ some k) : vg'.ownBlock ≠ some k := by
  rcases h with h | ⟨j, hj, h⟩
  · rw [h]; exact hne
  · rw [h]; intro e; injection e with e; omega
theorem Fv.trans {w'' : World} (h : Fv pw bm vg w w') (hv : NewV w vg vg') (h' : Fv pw bm vg' w' w'') : Fv pw bm vg w w'' :=
  ⟨Nat.le_trans h.size h'.size, fun k hk h1 h2 h3 => (h'.block k (Nat.lt_of_lt_of_le hk h.size) h1 h2 (hv.ne hk h3)).trans (h.block k hk h1 h2 h3)⟩
end
end Go.Proofs.Ytlkpbpecgdphaaa
namespace Go.Proofs.Ytlkpbpecgdphaaa
open Go.RowKit

section
variable {w0 w w' : World} {pw bm N N' n' : Nat} {vr vp vf vg vg' : Value} {way way' : List ByteArray} {out : List Gp} {R4 : List Row4}
theorem Fv.mapped (hg : w.grownBy w' (some bm)) : Fv pw bm vg w w' := ⟨hg.size, fun k hk _ h2 _ => hg.block k hk (fun e => h2 (by injection e))⟩
end
/-- Few groups, with few targets. -/
def FewG (out : List Gp) : Prop := out.length ≤ 10 ∧ ∀ g ∈ out, g.tg.length ≤ 10
theorem inT_take {l : List ByteArray} {k : Nat} {s x : ByteArray} (h : l[k]? = some s) : inT (l.take (k + 1)) x = (inT (l.take k) x || decide (s = x)) := by
  rw [List.take_add_one, h]
  exact inT_snoc _ _ _
theorem struck_all {way tg : List ByteArray} (hd : ∀ t ∈ tg, t ∉ way) (x : ByteArray) : (inT (way ++ tg) x && !inT tg x) = inT way x := by
  rw [inT_more]
  cases h : inT tg x with
  | false => simp
  | true =>
    have := hd x (inT_mem.1 h)
    have : inT way x = false := by
      cases h2 : inT way x with
      | false => rfl
      | true => exact absurd (inT_mem.1 h2) this
    simp [this]
end Go.Proofs.Ytlkpbpecgdphaaa
namespace Go.Proofs.Ytlkpbpecgdphaaa
open Go.RowKit

theorem gr_parts : ∃ i z, Try.prog.info? tGr = some i ∧ i.zero = some z ∧ i.size = 4 ∧ i.bytes = 80 ∧ z.cells.size = 4 := by
  have h : (Try.prog.info? tGr).map (fun i => (i.zero.map (fun z => z.cells.size), i.size, i.bytes)) = some (some 4, 4, 80) := by kernel_rfl
  cases e : Try.prog.info? tGr with
  | none => rw [e] at h; cases h
  | some i =>
    rw [e] at h
    simp only [Option.map_some, Option.some.injEq, Prod.mk.injEq] at h
    obtain ⟨h1, h2, h3⟩ := h
    cases hz : i.zero with
    | none => rw [hz] at h1; cases h1
    | some z => rw [hz] at h1; exact ⟨i, z, rfl, hz, h2, h3, by simpa using h1⟩
section
variable {w0 w w5 : World} {pw bm N : Nat} {vr vp vf vg v5 a b c : Value} {way : List ByteArray} {out : List Gp} {R4 : List Row4} {g : Gp}
end
theorem visit_few {m : Mk} {l : List F} (hL : Lim m) : ∀ (n : Nat) (name : ByteArray) (way : List ByteArray) (out : List Gp), FewG out → FewG (visitR m l n name way out).2 := by
  have key : ∀ (n : Nat) (name : ByteArray) (way : List ByteArray) (out : List Gp), (∀ g ∈ out, g.tg.length ≤ 10) → ∀ g ∈ (visitR m l n name way out).2, g.tg.length ≤ 10 := by
    intro n
    induction n with
    | zero => exact fun _ _ _ h => h
    | succ n ih =>
      intro name way out h
      unfold visitR
      split
      · exact h
      · split
        · exact h
        · cases hg : grpR m l name with
          | none => dsimp only; split <;> exact h
          | some g =>
            dsimp only
            have hn : ∀ (f : ByteArray → List Gp → Nat × List Gp), (∀ x o, (∀ g ∈ o, g.tg.length ≤ 10) → ∀ g ∈ (f x o).2, g.tg.length ≤ 10) → ∀ nd o, (∀ g ∈ o, g.tg.length ≤ 10) → ∀ g ∈ (needsR f nd o).2, g.tg.length ≤ 10 := by
              intro f hf nd
              induction nd with
              | nil => exact fun o h => h
              | cons x nd ih2 =>
                intro o h
                unfold needsR
                split
                · exact hf x o h
                · exact ih2 _ (hf x o h)
            have := hn (fun x o => visitR m l n x (way ++ g.tg) o) (fun x o ho => ih x _ o ho) g.nd out h
            split
            · exact this
            · split
              · exact h
              · intro q hq
                rcases List.mem_append.1 hq with hq | hq
                · exact this q hq
                · rw [List.mem_singleton.1 hq]
                  rcases grp_cases hg with ⟨r, hr, rfl, _⟩ | ⟨_, r, hr, rfl, _⟩
                  · exact hL.tgs r hr
                  · show [name].length ≤ 10; simp
  exact fun n name way out h => ⟨visit_len n name way out h.1, key n name way out h.2⟩
end Go.Proofs.Ytlkpbpecgdphaaa
