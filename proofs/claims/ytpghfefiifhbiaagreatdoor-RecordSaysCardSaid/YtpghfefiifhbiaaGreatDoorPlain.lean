/-
  PLAIN FACTS ON SORTED LISTS OF FILES (a name and a text each), under no condition on any program: the order of byte strings, where a name belongs, what putting and dropping make of a list.
-/
import GoSem.Claim
import Derived.Laws.Strings
namespace Go.Proofs.YtpghfefiifhbiaaGreatDoor

theorem bl_irrefl : ∀ x : List UInt8, Op.bytesLess x x = false
  | [] => rfl
  | a :: x => by simp [Op.bytesLess, bl_irrefl x]
theorem bl_trans : ∀ x y z : List UInt8, Op.bytesLess x y = true → Op.bytesLess y z = true → Op.bytesLess x z = true
  | _, _, [], _, h => by cases ‹List UInt8› <;> simp [Op.bytesLess] at h
  | _, [], _ :: _, h, _ => by simp [Op.bytesLess] at h
  | [], _ :: _, _ :: _, _, _ => rfl
  | a :: x, b :: y, c :: z, h, k => by
    simp only [Op.bytesLess, Bool.or_eq_true, decide_eq_true_eq, Bool.and_eq_true, beq_iff_eq] at h k ⊢
    rcases h with h | ⟨rfl, h⟩
    · rcases k with k | ⟨rfl, _⟩
      · exact .inl (UInt8.lt_trans h k)
      · exact .inl h
    · rcases k with k | ⟨rfl, k⟩
      · exact .inl k
      · exact .inr ⟨rfl, bl_trans x y z h k⟩
theorem bl_tri : ∀ x y : List UInt8, Op.bytesLess x y = false → Op.bytesLess y x = false → x = y
  | [], [], _, _ => rfl
  | [], _ :: _, h, _ => by simp [Op.bytesLess] at h
  | _ :: _, [], _, h => by simp [Op.bytesLess] at h
  | a :: x, b :: y, h, k => by
    simp only [Op.bytesLess, Bool.or_eq_false_iff, decide_eq_false_iff_not, Bool.and_eq_false_iff] at h k
    have hab : a = b := by
      have h1 := h.1
      have k1 := k.1
      rw [UInt8.lt_iff_toNat_lt] at h1 k1
      exact UInt8.toNat_inj.1 (by omega)
    subst hab
    have h2 : Op.bytesLess x y = false := by rcases h.2 with h2 | h2 <;> simp_all
    have k2 : Op.bytesLess y x = false := by rcases k.2 with k2 | k2 <;> simp_all
    rw [bl_tri x y h2 k2]

theorem toList_inj {a b : ByteArray} (h : a.toList = b.toList) : a = b := by
  rw [ByteArray.toList_eq, ByteArray.toList_eq] at h
  obtain ⟨⟨x⟩⟩ := a
  obtain ⟨⟨y⟩⟩ := b
  have h' : x = y := h
  rw [h']

/-- A file: its name, its text. -/
abbrev F := ByteArray × ByteArray
/-- Is the one name less than the other? -/
def lt (a b : ByteArray) : Bool := Op.bytesLess a.toList b.toList
theorem lt_irrefl (a : ByteArray) : lt a a = false := bl_irrefl _
theorem lt_trans {a b c : ByteArray} (h : lt a b = true) (k : lt b c = true) : lt a c = true := bl_trans _ _ _ h k
theorem lt_tri {a b : ByteArray} (h : lt a b = false) (k : lt b a = false) : a = b := toList_inj (bl_tri _ _ h k)
theorem lt_asymm {a b : ByteArray} (h : lt a b = true) : lt b a = false := by
  cases k : lt b a with
  | false => rfl
  | true => have := lt_trans h k; rw [lt_irrefl] at this; cases this
theorem lt_ne {a b : ByteArray} (h : lt a b = true) : a ≠ b := by rintro rfl; rw [lt_irrefl] at h; cases h

/-- The names rise. -/
def Rises (l : List F) : Prop := l.Pairwise fun a b => lt a.1 b.1 = true
/-- The files whose names are less, and greater. -/
def lo (l : List F) (x : ByteArray) : List F := l.filter fun f => lt f.1 x
def hi (l : List F) (x : ByteArray) : List F := l.filter fun f => lt x f.1
/-- How many names are less. -/
def cut (l : List F) (x : ByteArray) : Nat := (lo l x).length
/-- Is there such a name? -/
def has (l : List F) (x : ByteArray) : Bool := l.any fun f => f.1 == x
def putF (l : List F) (f : F) : List F := lo l f.1 ++ f :: hi l f.1
def dropF (l : List F) (x : ByteArray) : List F := lo l x ++ hi l x
def textF (l : List F) (x : ByteArray) : ByteArray := ((l.find? fun f => f.1 == x).map (·.2)).getD ByteArray.empty

instance : LawfulBEq ByteArray where
  rfl := by intro a; show (a.data == a.data) = true; simp
  eq_of_beq := by
    intro a b h
    have h' : (a.data == b.data) = true := h
    rw [beq_iff_eq] at h'
    obtain ⟨x⟩ := a
    obtain ⟨y⟩ := b
    simpa using h'

theorem Rises.tail {f : F} {l : List F} (h : Rises (f :: l)) : Rises l := (List.pairwise_cons.1 h).2
theorem Rises.head {f : F} {l : List F} (h : Rises (f :: l)) : ∀ g ∈ l, lt f.1 g.1 = true := (List.pairwise_cons.1 h).1
theorem Rises.filter {l : List F} (h : Rises l) (p : F → Bool) : Rises (l.filter p) := List.Pairwise.filter p h

theorem mem_lo {l : List F} {x : ByteArray} {g : F} : g ∈ lo l x ↔ g ∈ l ∧ lt g.1 x = true := by simp [lo]
theorem mem_hi {l : List F} {x : ByteArray} {g : F} : g ∈ hi l x ↔ g ∈ l ∧ lt x g.1 = true := by simp [hi]

theorem filter_none {α : Type} {p : α → Bool} {l : List α} (h : ∀ g ∈ l, p g = false) : l.filter p = [] := List.filter_eq_nil_iff.2 fun g hg => by simp [h g hg]
theorem filter_all {α : Type} {p : α → Bool} {l : List α} (h : ∀ g ∈ l, p g = true) : l.filter p = l := List.filter_eq_self.2 h

/-- A sorted list is what is less, the file of that name if there is one, and what is greater. -/
theorem split_at : ∀ {l : List F} (x : ByteArray), Rises l → (∃ t, l = lo l x ++ (x, t) :: hi l x) ∨ (l = lo l x ++ hi l x ∧ ∀ f ∈ l, f.1 ≠ x)
  | [], _, _ => .inr ⟨rfl, by simp⟩
  | f :: l, x, h => by
    cases h1 : lt f.1 x with
    | true =>
      have e1 : lo (f :: l) x = f :: lo l x := by simp [lo, h1]
      have e2 : hi (f :: l) x = hi l x := by simp [hi, lt_asymm h1]
      rw [e1, e2]
      rcases split_at x h.tail with ⟨t, e⟩ | ⟨e, hn⟩
      · exact .inl ⟨t, by rw [List.cons_append, ← e]⟩
      · refine .inr ⟨by rw [List.cons_append, ← e], fun g hg => ?_⟩
        rcases List.mem_cons.1 hg with rfl | hg
        · exact lt_ne h1
        · exact hn g hg
    | false =>
      have e1 : lo (f :: l) x = [] := filter_none fun g hg => by
        rcases List.mem_cons.1 hg with rfl | hg
        · exact h1
        · cases h2 : lt g.1 x with
          | false => rfl
          | true => have := lt_trans (h.head g hg) h2; rw [h1] at this; cases this
      cases h2 : lt x f.1 with
      | true =>
        have e2 : hi (f :: l) x = f :: l := filter_all fun g hg => by
          rcases List.mem_cons.1 hg with rfl | hg
          · exact h2
          · exact lt_trans h2 (h.head g hg)
        refine .inr ⟨by rw [e1, e2]; rfl, fun g hg e => ?_⟩
        subst e
        rcases List.mem_cons.1 hg with rfl | hg
        · rw [lt_irrefl] at h2; cases h2
        · have := lt_trans h2 (h.head g hg); rw [lt_irrefl] at this; cases this
      | false =>
        have e := lt_tri h1 h2
        have e2 : hi (f :: l) x = l := by
          have : hi (f :: l) x = hi l x := by simp [hi, h2]
          rw [this]
          exact filter_all fun g hg => by rw [← e]; exact h.head g hg
        refine .inl ⟨f.2, ?_⟩
        rw [e1, e2, ← e]
        rfl

theorem lo_put {l : List F} {f : F} (x : ByteArray) (e : f.1 = x) : lo (putF l f) x = lo l x := by
  subst e
  have h1 : (lo l f.1).filter (fun g => lt g.1 f.1) = lo l f.1 := filter_all fun g hg => (mem_lo.1 hg).2
  have h2 : (hi l f.1).filter (fun g => lt g.1 f.1) = [] := filter_none fun g hg => lt_asymm (mem_hi.1 hg).2
  show (lo l f.1 ++ f :: hi l f.1).filter _ = _
  rw [List.filter_append, h1, List.filter_cons, if_neg (by simp [lt_irrefl]), h2, List.append_nil]
theorem hi_put {l : List F} {f : F} (x : ByteArray) (e : f.1 = x) : hi (putF l f) x = hi l x := by
  subst e
  have h1 : (lo l f.1).filter (fun g => lt f.1 g.1) = [] := filter_none fun g hg => lt_asymm (mem_lo.1 hg).2
  have h2 : (hi l f.1).filter (fun g => lt f.1 g.1) = hi l f.1 := filter_all fun g hg => (mem_hi.1 hg).2
  show (lo l f.1 ++ f :: hi l f.1).filter _ = _
  rw [List.filter_append, h1, List.filter_cons, if_neg (by simp [lt_irrefl]), h2, List.nil_append]
theorem lo_drop (l : List F) (x : ByteArray) : lo (dropF l x) x = lo l x := by
  have h1 : (lo l x).filter (fun g => lt g.1 x) = lo l x := filter_all fun g hg => (mem_lo.1 hg).2
  have h2 : (hi l x).filter (fun g => lt g.1 x) = [] := filter_none fun g hg => lt_asymm (mem_hi.1 hg).2
  show (lo l x ++ hi l x).filter _ = _
  rw [List.filter_append, h1, h2, List.append_nil]
theorem hi_drop (l : List F) (x : ByteArray) : hi (dropF l x) x = hi l x := by
  have h1 : (lo l x).filter (fun g => lt x g.1) = [] := filter_none fun g hg => lt_asymm (mem_lo.1 hg).2
  have h2 : (hi l x).filter (fun g => lt x g.1) = hi l x := filter_all fun g hg => (mem_hi.1 hg).2
  show (lo l x ++ hi l x).filter _ = _
  rw [List.filter_append, h1, h2, List.nil_append]
theorem drop_put (l : List F) (f : F) : dropF (putF l f) f.1 = dropF l f.1 := by
  unfold dropF; rw [lo_put _ rfl, hi_put _ rfl]
theorem put_drop (l : List F) (f : F) : putF (dropF l f.1) f = putF l f := by
  unfold putF; rw [lo_drop, hi_drop]
theorem put_put (l : List F) (f : F) : putF (putF l f) f = putF l f := by
  show lo (putF l f) f.1 ++ f :: hi (putF l f) f.1 = _
  rw [lo_put (l := l) (f := f) f.1 rfl, hi_put (l := l) (f := f) f.1 rfl]; rfl

theorem rises_put {l : List F} (h : Rises l) (f : F) : Rises (putF l f) := by
  refine List.pairwise_append.2 ⟨h.filter _, List.pairwise_cons.2 ⟨fun g hg => (mem_hi.1 hg).2, h.filter _⟩, fun a ha b hb => ?_⟩
  rcases List.mem_cons.1 hb with rfl | hb
  · exact (mem_lo.1 ha).2
  · exact lt_trans (mem_lo.1 ha).2 (mem_hi.1 hb).2
theorem rises_drop {l : List F} (h : Rises l) (x : ByteArray) : Rises (dropF l x) :=
  List.pairwise_append.2 ⟨h.filter _, h.filter _, fun _ ha _ hb => lt_trans (mem_lo.1 ha).2 (mem_hi.1 hb).2⟩

theorem mem_put {l : List F} (_h : Rises l) {f g : F} : g ∈ putF l f ↔ g = f ∨ (g ∈ l ∧ g.1 ≠ f.1) := by
  simp only [putF, List.mem_append, List.mem_cons, mem_lo, mem_hi]
  constructor
  · rintro (⟨h1, h2⟩ | rfl | ⟨h1, h2⟩)
    · exact .inr ⟨h1, lt_ne h2⟩
    · exact .inl rfl
    · exact .inr ⟨h1, (lt_ne h2).symm⟩
  · rintro (rfl | ⟨h1, h2⟩)
    · exact .inr (.inl rfl)
    · cases h3 : lt g.1 f.1 with
      | true => exact .inl ⟨h1, rfl⟩
      | false =>
        cases h4 : lt f.1 g.1 with
        | true => exact .inr (.inr ⟨h1, rfl⟩)
        | false => exact absurd (lt_tri h3 h4) h2
theorem mem_drop {l : List F} {x : ByteArray} {g : F} : g ∈ dropF l x ↔ g ∈ l ∧ g.1 ≠ x := by
  simp only [dropF, List.mem_append, mem_lo, mem_hi]
  constructor
  · rintro (⟨h1, h2⟩ | ⟨h1, h2⟩)
    · exact ⟨h1, lt_ne h2⟩
    · exact ⟨h1, (lt_ne h2).symm⟩
  · rintro ⟨h1, h2⟩
    cases h3 : lt g.1 x with
    | true => exact .inl ⟨h1, rfl⟩
    | false =>
      cases h4 : lt x g.1 with
      | true => exact .inr ⟨h1, rfl⟩
      | false => exact absurd (lt_tri h3 h4) h2

theorem has_iff {l : List F} {x : ByteArray} : has l x = true ↔ ∃ f ∈ l, f.1 = x := by simp [has]
theorem rises_one {l : List F} (h : Rises l) {f g : F} (hf : f ∈ l) (hg : g ∈ l) (e : f.1 = g.1) : f = g := by
  induction l with
  | nil => cases hf
  | cons a l ih =>
    rcases List.mem_cons.1 hf with rfl | hf'
    · rcases List.mem_cons.1 hg with rfl | hg'
      · rfl
      · have := h.head g hg'; rw [e, lt_irrefl] at this; cases this
    · rcases List.mem_cons.1 hg with rfl | hg'
      · have := h.head f hf'; rw [e, lt_irrefl] at this; cases this
      · exact ih h.tail hf' hg'
theorem textF_of {l : List F} (h : Rises l) {f : F} (hf : f ∈ l) : textF l f.1 = f.2 := by
  unfold textF
  cases e : l.find? (fun g => g.1 == f.1) with
  | none => have := List.find?_eq_none.1 e f hf; simp at this
  | some g =>
    have h1 := List.find?_some e
    have h2 := List.mem_of_find?_eq_some e
    rw [rises_one h h2 hf (by simpa using h1)]
    rfl
theorem textF_none {l : List F} {x : ByteArray} (h : has l x = false) : textF l x = ByteArray.empty := by
  unfold textF
  have : l.find? (fun g => g.1 == x) = none := List.find?_eq_none.2 fun g hg he => by
    have := has_iff.2 ⟨g, hg, by simpa using he⟩
    rw [h] at this; cases this
  rw [this]; rfl

theorem has_put {l : List F} (h : Rises l) (f : F) : has (putF l f) f.1 = true := has_iff.2 ⟨f, (mem_put h).2 (.inl rfl), rfl⟩
theorem text_put {l : List F} (h : Rises l) (f : F) : textF (putF l f) f.1 = f.2 := textF_of (rises_put h f) ((mem_put h).2 (.inl rfl))
theorem has_put_other {l : List F} (h : Rises l) (f : F) {x : ByteArray} (hx : x ≠ f.1) : has (putF l f) x = has l x := by
  rw [Bool.eq_iff_iff, has_iff, has_iff]
  constructor
  · rintro ⟨g, hg, rfl⟩
    rcases (mem_put h).1 hg with rfl | hg
    · exact absurd rfl hx
    · exact ⟨g, hg.1, rfl⟩
  · rintro ⟨g, hg, rfl⟩
    exact ⟨g, (mem_put h).2 (.inr ⟨hg, hx⟩), rfl⟩
theorem text_put_other {l : List F} (h : Rises l) (f : F) {x : ByteArray} (hx : x ≠ f.1) : textF (putF l f) x = textF l x := by
  cases e : has l x with
  | false => rw [textF_none e, textF_none (by rw [has_put_other h f hx, e])]
  | true =>
    obtain ⟨g, hg, rfl⟩ := has_iff.1 e
    rw [textF_of h hg, textF_of (rises_put h f) ((mem_put h).2 (.inr ⟨hg, hx⟩))]
theorem has_drop (l : List F) (x : ByteArray) : has (dropF l x) x = false := by
  cases e : has (dropF l x) x with
  | false => rfl
  | true => obtain ⟨g, hg, e⟩ := has_iff.1 e; exact absurd e (mem_drop.1 hg).2
theorem len_put_drop (l : List F) (f : F) : (putF l f).length = (dropF l f.1).length + 1 := by simp [putF, dropF]; omega
theorem len_drop_le {l : List F} (h : Rises l) (x : ByteArray) : (dropF l x).length ≤ l.length := by
  rcases split_at x h with ⟨t, e⟩ | ⟨e, _⟩
  · have := congrArg List.length e; simp at this; simp [dropF]; omega
  · have := congrArg List.length e; simp at this; simp [dropF]; omega
theorem len_put_le {l : List F} (h : Rises l) (f : F) : (putF l f).length ≤ l.length + 1 := by
  rw [len_put_drop]; have := len_drop_le h f.1; omega

/-- Where the name belongs: the three facts that a search needs. -/
theorem cut_le {l : List F} (x : ByteArray) : cut l x ≤ l.length := List.length_filter_le _ _
theorem cut_lt {l : List F} (h : Rises l) (x : ByteArray) {i : Nat} {f : F} (hi : l[i]? = some f) : lt f.1 x = true ↔ i < cut l x := by
  unfold cut
  rcases split_at x h with ⟨t, e⟩ | ⟨e, _⟩
  all_goals
    constructor
    · intro hl
      rcases Nat.lt_or_ge i (lo l x).length with h1 | h1
      · exact h1
      · exfalso
        rw [e, List.getElem?_append_right h1] at hi
        have hm := List.mem_of_getElem? hi
        first
          | (rcases List.mem_cons.1 hm with rfl | hm
             · rw [lt_irrefl] at hl; cases hl
             · have := lt_asymm (mem_hi.1 hm).2; rw [hl] at this; cases this)
          | (have := lt_asymm (mem_hi.1 hm).2; rw [hl] at this; cases this)
    · intro h1
      rw [e, List.getElem?_append_left h1] at hi
      exact (mem_lo.1 (List.mem_of_getElem? hi)).2
theorem cut_take {l : List F} (h : Rises l) (x : ByteArray) : l.take (cut l x) = lo l x := by
  unfold cut
  rcases split_at x h with ⟨t, e⟩ | ⟨e, _⟩
  all_goals
    generalize lo l x = a at e ⊢
    generalize hi l x = b at e
    subst e
    exact List.take_left
theorem cut_has {l : List F} (h : Rises l) (x : ByteArray) : has l x = true ↔ ∃ f, l[cut l x]? = some f ∧ f.1 = x := by
  constructor
  · intro hh
    obtain ⟨g, hg, rfl⟩ := has_iff.1 hh
    rcases split_at g.1 h with ⟨t, e⟩ | ⟨_, hn⟩
    · refine ⟨(g.1, t), ?_, rfl⟩
      unfold cut
      generalize lo l g.1 = a at e ⊢
      generalize hi l g.1 = b at e
      rw [e, List.getElem?_append_right (Nat.le_refl _)]
      simp
    · exact absurd rfl (hn g hg)
  · rintro ⟨f, hf, rfl⟩
    exact has_iff.2 ⟨f, List.mem_of_getElem? hf, rfl⟩
theorem cut_drop {l : List F} (h : Rises l) (x : ByteArray) : l.drop (cut l x + if has l x = true then 1 else 0) = hi l x := by
  rcases split_at x h with ⟨t, e⟩ | ⟨e, hn⟩
  · have hh : has l x = true := has_iff.2 ⟨(x, t), by rw [e]; simp, rfl⟩
    rw [if_pos hh]
    unfold cut
    generalize lo l x = a at e ⊢
    generalize hi l x = b at e ⊢
    rw [e, ← List.drop_drop, List.drop_left]
    rfl
  · have hh : ¬ has l x = true := fun hh => by obtain ⟨g, hg, e⟩ := has_iff.1 hh; exact hn g hg e
    rw [if_neg hh]
    unfold cut
    generalize lo l x = a at e ⊢
    generalize hi l x = b at e ⊢
    rw [e, Nat.add_zero, List.drop_left]
end Go.Proofs.YtpghfefiifhbiaaGreatDoor
