/-
  WORDS FOR MEMORY, under no condition on any program: a slice that reads as a list of files; it goes on doing so where nothing below has turned; its parts; an append of such a slice onto a row of the call's own.
-/
import GoSem.Claim
import Derived.Laws.Strings
import Derived.Below
import Derived.Laws.OwnMore
import Derived.Deep.AppendLies
import Derived.Deep.Draws
import Derived.Maps.AppendAt
import Derived.RegionTactic
import Derived.OwnWalk
import Derived.WideShapes
namespace Go.Proofs.Ytlkpbpecgdphaaa

theorem bl_irrefl : ∀ x : List UInt8, Op.bytesLess x x = false
  | [] => rfl
  | a :: x => by simp [Op.bytesLess, bl_irrefl x]
theorem bl_trans : ∀ x y z : List UInt8, Op.bytesLess x y = true → Op.bytesLess y z = true → Op.bytesLess x z = true
  | _, _, [], _, h => by cases ‹List UInt8› <;> simp [Op.bytesLess] at h
  | _, [], _ :: _, h, _ => by simp [Op.bytesLess] at h
  | [], _ :: _, _ :: _, _, _ => rfl
  | a :: x, b :: y, c :: z, h, k => by
    simp only [Op.bytesLess, Bool.or_eq_true, decide_eq_true_eq, Bool.and_eq_true, beq_iff_eq] at h k ⊢
    rcases h with h | ⟨rfl, h⟩
    · rcases k with k | ⟨rfl, _⟩
      · exact .inl (UInt8.lt_trans h k)
      · exact .inl h
    · rcases k with k | ⟨rfl, k⟩
      · exact .inl k
      · exact .inr ⟨rfl, bl_trans x y z h k⟩
theorem bl_tri : ∀ x y : List UInt8, Op.bytesLess x y = false → Op.bytesLess y x = false → x = y
  | [], [], _, _ => rfl
  | [], _ :: _, h, _ => by simp [Op.bytesLess] at h
  | _ :: _, [], _, h => by simp [Op.bytesLess] at h
  | a :: x, b :: y, h, k => by
    simp only [Op.bytesLess, Bool.or_eq_false_iff, decide_eq_false_iff_not, Bool.and_eq_false_iff] at h k
    have hab : a = b := by
      have h1 := h.1
      have k1 := k.1
      rw [UInt8.lt_iff_toNat_lt] at h1 k1
      exact UInt8.toNat_inj.1 (by omega)
    subst hab
    have h2 : Op.bytesLess x y = false := by rcases h.2 with h2 | h2 <;> simp_all
    have k2 : Op.bytesLess y x = false := by rcases k.2 with k2 | k2 <;> simp_all
    rw [bl_tri x y h2 k2]

theorem toList_inj {a b : ByteArray} (h : a.toList = b.toList) : a = b := by
  rw [ByteArray.toList_eq, ByteArray.toList_eq] at h
  obtain ⟨⟨x⟩⟩ := a
  obtain ⟨⟨y⟩⟩ := b
  have h' : x = y := h
  rw [h']

/-- A file: its name, its text. -/
abbrev F := ByteArray × ByteArray
/-- Is the one name less than the other? -/
def lt (a b : ByteArray) : Bool := Op.bytesLess a.toList b.toList
theorem lt_irrefl (a : ByteArray) : lt a a = false := bl_irrefl _
theorem lt_trans {a b c : ByteArray} (h : lt a b = true) (k : lt b c = true) : lt a c = true := bl_trans _ _ _ h k
theorem lt_tri {a b : ByteArray} (h : lt a b = false) (k : lt b a = false) : a = b := toList_inj (bl_tri _ _ h k)
theorem lt_asymm {a b : ByteArray} (h : lt a b = true) : lt b a = false := by
  cases k : lt b a with
  | false => rfl
  | true => have := lt_trans h k; rw [lt_irrefl] at this; cases this
theorem lt_ne {a b : ByteArray} (h : lt a b = true) : a ≠ b := by rintro rfl; rw [lt_irrefl] at h; cases h

/-- The names rise. -/
def Rises (l : List F) : Prop := l.Pairwise fun a b => lt a.1 b.1 = true
/-- The files whose names are less, and greater. -/
def lo (l : List F) (x : ByteArray) : List F := l.filter fun f => lt f.1 x
def hi (l : List F) (x : ByteArray) : List F := l.filter fun f => lt x f.1
/-- How many names are less. -/
def cut (l : List F) (x : ByteArray) : Nat := (lo l x).length
/-- Is there such a name? -/
def has (l : List F) (x : ByteArray) : Bool := l.any fun f => f.1 == x
def putF (l : List F) (f : F) : List F := lo l f.1 ++ f :: hi l f.1
def dropF (l : List F) (x : ByteArray) : List F := lo l x ++ hi l x
def textF (l : List F) (x : ByteArray) : ByteArray := ((l.find? fun f => f.1 == x).map (·.2)).getD ByteArray.empty

instance : LawfulBEq ByteArray where
  rfl := by intro a; show (a.data == a.data) = true; simp
  eq_of_beq := by
    intro a b h
    have h' : (a.data == b.data) = true := h
    rw [beq_iff_eq] at h'
    obtain ⟨x⟩ := a
    obtain ⟨y⟩ := b
    simpa using h'

theorem Rises.tail {f : F} {l : List F} (h : Rises (f :: l)) : Rises l := (List.pairwise_cons.1 h).2
theorem Rises.head {f : F} {l : List F} (h : Rises (f :: l)) : ∀ g ∈ l, lt f.1 g.1 = true := (List.pairwise_cons.1 h).1
theorem Rises.filter {l : List F} (h : Rises l) (p : F → Bool) : Rises (l.filter p) := List.Pairwise.filter p h

theorem mem_lo {l : List F} {x : ByteArray} {g : F} : g ∈ lo l x ↔ g ∈ l ∧ lt g.1 x = true := by simp [lo]
theorem mem_hi {l : List F} {x : ByteArray} {g : F} : g ∈ hi l x ↔ g ∈ l ∧ lt x g.1 = true := by simp [hi]

theorem filter_none {α : Type} {p : α → Bool} {l : List α} (h : ∀ g ∈ l, p g = false) : l.filter p = [] := List.filter_eq_nil_iff.2 fun g hg => by simp [h g hg]
theorem filter_all {α : Type} {p : α → Bool} {l : List α} (h : ∀ g ∈ l, p g = true) : l.filter p = l := List.filter_eq_self.2 h

/-- A sorted list is what is less, the file of that name if there is one, and what is greater. -/
theorem split_at : ∀ {l : List F} (x : ByteArray), Rises l → (∃ t, l = lo l x ++ (x, t) :: hi l x) ∨ (l = lo l x ++ hi l x ∧ ∀ f ∈ l, f.1 ≠ x)
  | [], _, _ => .inr ⟨rfl, by simp⟩
  | f :: l, x, h => by
    cases h1 : lt f.1 x with
    | true =>
      have e1 : lo (f :: l) x = f :: lo l x := by simp [lo, h1]
      have e2 : hi (f :: l) x = hi l x := by simp [hi, lt_asymm h1]
      rw [e1, e2]
      rcases split_at x h.tail with ⟨t, e⟩ | ⟨e, hn⟩
      · exact .inl ⟨t, by rw [List.cons_append, ← e]⟩
      · refine .inr ⟨by rw [List.cons_append, ← e], fun g hg => ?_⟩
        rcases List.mem_cons.1 hg with rfl | hg
        · exact lt_ne h1
        · exact hn g hg
    | false =>
      have e1 : lo (f :: l) x = [] := filter_none fun g hg => by
        rcases List.mem_cons.1 hg with rfl | hg
        · exact h1
        · cases h2 : lt g.1 x with
          | false => rfl
          | true => have := lt_trans (h.head g hg) h2; rw [h1] at this; cases this
      cases h2 : lt x f.1 with
      | true =>
        have e2 : hi (f :: l) x = f :: l := filter_all fun g hg => by
          rcases List.mem_cons.1 hg with rfl | hg
          · exact h2
          · exact lt_trans h2 (h.head g hg)
        refine .inr ⟨by rw [e1, e2]; rfl, fun g hg e => ?_⟩
        subst e
        rcases List.mem_cons.1 hg with rfl | hg
        · rw [lt_irrefl] at h2; cases h2
        · have := lt_trans h2 (h.head g hg); rw [lt_irrefl] at this; cases this
      | false =>
        have e := lt_tri h1 h2
        have e2 : hi (f :: l) x = l := by
          have : hi (f :: l) x = hi l x := by simp [hi, h2]
          rw [this]
          exact filter_all fun g hg => by rw [← e]; exact h.head g hg
        refine .inl ⟨f.2, ?_⟩
        rw [e1, e2, ← e]
        rfl

theorem lo_put {l : List F} {f : F} (x : ByteArray) (e : f.1 = x) : lo (putF l f) x = lo l x := by
  subst e
  have h1 : (lo l f.1).filter (fun g => lt g.1 f.1) = lo l f.1 := filter_all fun g hg => (mem_lo.1 hg).2
  have h2 : (hi l f.1).filter (fun g => lt g.1 f.1) = [] := filter_none fun g hg => lt_asymm (mem_hi.1 hg).2
  show (lo l f.1 ++ f :: hi l f.1).filter _ = _
  rw [List.filter_append, h1, List.filter_cons, if_neg (by simp [lt_irrefl]), h2, List.append_nil]
theorem hi_put {l : List F} {f : F} (x : ByteArray) (e : f.1 = x) : hi (putF l f) x = hi l x := by
  subst e
  have h1 : (lo l f.1).filter (fun g => lt f.1 g.1) = [] := filter_none fun g hg => lt_asymm (mem_lo.1 hg).2
  have h2 : (hi l f.1).filter (fun g => lt f.1 g.1) = hi l f.1 := filter_all fun g hg => (mem_hi.1 hg).2
  show (lo l f.1 ++ f :: hi l f.1).filter _ = _
  rw [List.filter_append, h1, List.filter_cons, if_neg (by simp [lt_irrefl]), h2, List.nil_append]
theorem lo_drop (l : List F) (x : ByteArray) : lo (dropF l x) x = lo l x := by
  have h1 : (lo l x).filter (fun g => lt g.1 x) = lo l x := filter_all fun g hg => (mem_lo.1 hg).2
  have h2 : (hi l x).filter (fun g => lt g.1 x) = [] := filter_none fun g hg => lt_asymm (mem_hi.1 hg).2
  show (lo l x ++ hi l x).filter _ = _
  rw [List.filter_append, h1, h2, List.append_nil]
theorem hi_drop (l : List F) (x : ByteArray) : hi (dropF l x) x = hi l x := by
  have h1 : (lo l x).filter (fun g => lt x g.1) = [] := filter_none fun g hg => lt_asymm (mem_lo.1 hg).2
  have h2 : (hi l x).filter (fun g => lt x g.1) = hi l x := filter_all fun g hg => (mem_hi.1 hg).2
  show (lo l x ++ hi l x).filter _ = _
  rw [List.filter_append, h1, h2, List.nil_append]
theorem drop_put (l : List F) (f : F) : dropF (putF l f) f.1 = dropF l f.1 := by
  unfold dropF; rw [lo_put _ rfl, hi_put _ rfl]
theorem put_drop (l : List F) (f : F) : putF (dropF l f.1) f = putF l f := by
  unfold putF; rw [lo_drop, hi_drop]
theorem put_put (l : List F) (f : F) : putF (putF l f) f = putF l f := by
  show lo (putF l f) f.1 ++ f :: hi (putF l f) f.1 = _
  rw [lo_put (l := l) (f := f) f.1 rfl, hi_put (l := l) (f := f) f.1 rfl]; rfl

theorem rises_put {l : List F} (h : Rises l) (f : F) : Rises (putF l f) := by
  refine List.pairwise_append.2 ⟨h.filter _, List.pairwise_cons.2 ⟨fun g hg => (mem_hi.1 hg).2, h.filter _⟩, fun a ha b hb => ?_⟩
  rcases List.mem_cons.1 hb with rfl | hb
  · exact (mem_lo.1 ha).2
  · exact lt_trans (mem_lo.1 ha).2 (mem_hi.1 hb).2
theorem rises_drop {l : List F} (h : Rises l) (x : ByteArray) : Rises (dropF l x) :=
  List.pairwise_append.2 ⟨h.filter _, h.filter _, fun _ ha _ hb => lt_trans (mem_lo.1 ha).2 (mem_hi.1 hb).2⟩

theorem mem_put {l : List F} (_h : Rises l) {f g : F} : g ∈ putF l f ↔ g = f ∨ (g ∈ l ∧ g.1 ≠ f.1) := by
  simp only [putF, List.mem_append, List.mem_cons, mem_lo, mem_hi]
  constructor
  · rintro (⟨h1, h2⟩ | rfl | ⟨h1, h2⟩)
    · exact .inr ⟨h1, lt_ne h2⟩
    · exact .inl rfl
    · exact .inr ⟨h1, (lt_ne h2).symm⟩
  · rintro (rfl | ⟨h1, h2⟩)
    · exact .inr (.inl rfl)
    · cases h3 : lt g.1 f.1 with
      | true => exact .inl ⟨h1, rfl⟩
      | false =>
        cases h4 : lt f.1 g.1 with
        | true => exact .inr (.inr ⟨h1, rfl⟩)
        | false => exact absurd (lt_tri h3 h4) h2
theorem mem_drop {l : List F} {x : ByteArray} {g : F} : g ∈ dropF l x ↔ g ∈ l ∧ g.1 ≠ x := by
  simp only [dropF, List.mem_append, mem_lo, mem_hi]
  constructor
  · rintro (⟨h1, h2⟩ | ⟨h1, h2⟩)
    · exact ⟨h1, lt_ne h2⟩
    · exact ⟨h1, (lt_ne h2).symm⟩
  · rintro ⟨h1, h2⟩
    cases h3 : lt g.1 x with
    | true => exact .inl ⟨h1, rfl⟩
    | false =>
      cases h4 : lt x g.1 with
      | true => exact .inr ⟨h1, rfl⟩
      | false => exact absurd (lt_tri h3 h4) h2

theorem has_iff {l : List F} {x : ByteArray} : has l x = true ↔ ∃ f ∈ l, f.1 = x := by simp [has]
theorem rises_one {l : List F} (h : Rises l) {f g : F} (hf : f ∈ l) (hg : g ∈ l) (e : f.1 = g.1) : f = g := by
  induction l with
  | nil => cases hf
  | cons a l ih =>
    rcases List.mem_cons.1 hf with rfl | hf'
    · rcases List.mem_cons.1 hg with rfl | hg'
      · rfl
      · have := h.head g hg'; rw [e, lt_irrefl] at this; cases this
    · rcases List.mem_cons.1 hg with rfl | hg'
      · have := h.head f hf'; rw [e, lt_irrefl] at this; cases this
      · exact ih h.tail hf' hg'
theorem textF_of {l : List F} (h : Rises l) {f : F} (hf : f ∈ l) : textF l f.1 = f.2 := by
  unfold textF
  cases e : l.find? (fun g => g.1 == f.1) with
  | none => have := List.find?_eq_none.1 e f hf; simp at this
  | some g =>
    have h1 := List.find?_some e
    have h2 := List.mem_of_find?_eq_some e
    rw [rises_one h h2 hf (by simpa using h1)]
    rfl
theorem textF_none {l : List F} {x : ByteArray} (h : has l x = false) : textF l x = ByteArray.empty := by
  unfold textF
  have : l.find? (fun g => g.1 == x) = none := List.find?_eq_none.2 fun g hg he => by
    have := has_iff.2 ⟨g, hg, by simpa using he⟩
    rw [h] at this; cases this
  rw [this]; rfl

theorem has_put {l : List F} (h : Rises l) (f : F) : has (putF l f) f.1 = true := has_iff.2 ⟨f, (mem_put h).2 (.inl rfl), rfl⟩
theorem text_put {l : List F} (h : Rises l) (f : F) : textF (putF l f) f.1 = f.2 := textF_of (rises_put h f) ((mem_put h).2 (.inl rfl))
theorem has_put_other {l : List F} (h : Rises l) (f : F) {x : ByteArray} (hx : x ≠ f.1) : has (putF l f) x = has l x := by
  rw [Bool.eq_iff_iff, has_iff, has_iff]
  constructor
  · rintro ⟨g, hg, rfl⟩
    rcases (mem_put h).1 hg with rfl | hg
    · exact absurd rfl hx
    · exact ⟨g, hg.1, rfl⟩
  · rintro ⟨g, hg, rfl⟩
    exact ⟨g, (mem_put h).2 (.inr ⟨hg, hx⟩), rfl⟩
theorem text_put_other {l : List F} (h : Rises l) (f : F) {x : ByteArray} (hx : x ≠ f.1) : textF (putF l f) x = textF l x := by
  cases e : has l x with
  | false => rw [textF_none e, textF_none (by rw [has_put_other h f hx, e])]
  | true =>
    obtain ⟨g, hg, rfl⟩ := has_iff.1 e
    rw [textF_of h hg, textF_of (rises_put h f) ((mem_put h).2 (.inr ⟨hg, hx⟩))]
theorem has_drop (l : List F) (x : ByteArray) : has (dropF l x) x = false := by
  cases e : has (dropF l x) x with
  | false => rfl
  | true => obtain ⟨g, hg, e⟩ := has_iff.1 e; exact absurd e (mem_drop.1 hg).2
theorem len_put_drop (l : List F) (f : F) : (putF l f).length = (dropF l f.1).length + 1 := by simp [putF, dropF]; omega
theorem len_drop_le {l : List F} (h : Rises l) (x : ByteArray) : (dropF l x).length ≤ l.length := by
  rcases split_at x h with ⟨t, e⟩ | ⟨e, _⟩
  · have := congrArg List.length e; simp at this; simp [dropF]; omega
  · have := congrArg List.length e; simp at this; simp [dropF]; omega
theorem len_put_le {l : List F} (h : Rises l) (f : F) : (putF l f).length ≤ l.length + 1 := by
  rw [len_put_drop]; have := len_drop_le h f.1; omega

/-- Where the name belongs: the three facts that a search needs. -/
theorem cut_le {l : List F} (x : ByteArray) : cut l x ≤ l.length := List.length_filter_le _ _
theorem cut_lt {l : List F} (h : Rises l) (x : ByteArray) {i : Nat} {f : F} (hi : l[i]? = some f) : lt f.1 x = true ↔ i < cut l x := by
  unfold cut
  rcases split_at x h with ⟨t, e⟩ | ⟨e, _⟩
  all_goals
    constructor
    · intro hl
      rcases Nat.lt_or_ge i (lo l x).length with h1 | h1
      · exact h1
      · exfalso
        rw [e, List.getElem?_append_right h1] at hi
        have hm := List.mem_of_getElem? hi
        first
          | (rcases List.mem_cons.1 hm with rfl | hm
             · rw [lt_irrefl] at hl; cases hl
             · have := lt_asymm (mem_hi.1 hm).2; rw [hl] at this; cases this)
          | (have := lt_asymm (mem_hi.1 hm).2; rw [hl] at this; cases this)
    · intro h1
      rw [e, List.getElem?_append_left h1] at hi
      exact (mem_lo.1 (List.mem_of_getElem? hi)).2
theorem cut_take {l : List F} (h : Rises l) (x : ByteArray) : l.take (cut l x) = lo l x := by
  unfold cut
  rcases split_at x h with ⟨t, e⟩ | ⟨e, _⟩
  all_goals
    generalize lo l x = a at e ⊢
    generalize hi l x = b at e
    subst e
    exact List.take_left
theorem cut_has {l : List F} (h : Rises l) (x : ByteArray) : has l x = true ↔ ∃ f, l[cut l x]? = some f ∧ f.1 = x := by
  constructor
  · intro hh
    obtain ⟨g, hg, rfl⟩ := has_iff.1 hh
    rcases split_at g.1 h with ⟨t, e⟩ | ⟨_, hn⟩
    · refine ⟨(g.1, t), ?_, rfl⟩
      unfold cut
      generalize lo l g.1 = a at e ⊢
      generalize hi l g.1 = b at e
      rw [e, List.getElem?_append_right (Nat.le_refl _)]
      simp
    · exact absurd rfl (hn g hg)
  · rintro ⟨f, hf, rfl⟩
    exact has_iff.2 ⟨f, List.mem_of_getElem? hf, rfl⟩
theorem cut_drop {l : List F} (h : Rises l) (x : ByteArray) : l.drop (cut l x + if has l x = true then 1 else 0) = hi l x := by
  rcases split_at x h with ⟨t, e⟩ | ⟨e, hn⟩
  · have hh : has l x = true := has_iff.2 ⟨(x, t), by rw [e]; simp, rfl⟩
    rw [if_pos hh]
    unfold cut
    generalize lo l x = a at e ⊢
    generalize hi l x = b at e ⊢
    rw [e, ← List.drop_drop, List.drop_left]
    rfl
  · have hh : ¬ has l x = true := fun hh => by obtain ⟨g, hg, e⟩ := has_iff.1 hh; exact hn g hg e
    rw [if_neg hh]
    unfold cut
    generalize lo l x = a at e ⊢
    generalize hi l x = b at e ⊢
    rw [e, Nat.add_zero, List.drop_left]
end Go.Proofs.Ytlkpbpecgdphaaa
namespace Go.Proofs.Ytlkpbpecgdphaaa
open Go.RowKit

/-- The cells of a list of files: two each. -/
def fcells (l : List F) : List Value := l.flatMap fun f => [.string f.1, .string f.2]
theorem fcells_len (l : List F) : (fcells l).length = l.length * 2 := by
  induction l with
  | nil => rfl
  | cons f l ih => show (fcells l).length + 1 + 1 = (l.length + 1) * 2; omega
theorem fcells_append (a b : List F) : fcells (a ++ b) = fcells a ++ fcells b := by simp [fcells]
theorem fcells_cons (f : F) (l : List F) : fcells (f :: l) = .string f.1 :: .string f.2 :: fcells l := rfl
theorem fcells_take (l : List F) (k : Nat) : (fcells l).take (k * 2) = fcells (l.take k) := by
  induction l generalizing k with
  | nil => simp [fcells]
  | cons f l ih =>
    cases k with
    | zero => simp [fcells]
    | succ k =>
      rw [fcells_cons, show (k + 1) * 2 = k * 2 + 1 + 1 by omega, List.take_succ_cons, List.take_succ_cons, ih, List.take_succ_cons, fcells_cons]
theorem fcells_drop (l : List F) (k : Nat) : (fcells l).drop (k * 2) = fcells (l.drop k) := by
  induction l generalizing k with
  | nil => simp [fcells]
  | cons f l ih =>
    cases k with
    | zero => simp
    | succ k =>
      rw [fcells_cons, show (k + 1) * 2 = k * 2 + 1 + 1 by omega, List.drop_succ_cons, List.drop_succ_cons, ih, List.drop_succ_cons]
theorem fcells_at {l : List F} {i : Nat} {f : F} (h : l[i]? = some f) : (fcells l)[i * 2]? = some (.string f.1) ∧ (fcells l)[i * 2 + 1]? = some (.string f.2) := by
  induction l generalizing i with
  | nil => simp at h
  | cons g l ih =>
    cases i with
    | zero => simp at h; subst h; exact ⟨rfl, rfl⟩
    | succ i =>
      rw [List.getElem?_cons_succ] at h
      rw [fcells_cons, show (i + 1) * 2 = i * 2 + 1 + 1 by omega]
      exact ih h
theorem fcells_one (l : List F) : ∀ u ∈ fcells l, u.oneCell' = true := by
  intro u hu
  simp only [fcells, List.mem_flatMap, List.mem_cons, List.mem_nil_iff, or_false] at hu
  obtain ⟨f, _, rfl | rfl⟩ := hu <;> rfl

/-- The slice (A, n, c) reads as the files l, and lies below block B. -/
def RdF (w : World) (B : Nat) (A : Option Addr) (n c : Nat) (l : List F) : Prop :=
  l.length = n ∧ n ≤ c ∧ c ≤ maxLen ∧ (0 < n → ∃ b off, A = some ⟨b, off, none⟩ ∧ b < B ∧ ∀ j u, (fcells l)[j]? = some u → w.cell? ⟨b, off + j, none⟩ = some u)

section
variable {w w' : World} {B B' n c : Nat} {A : Option Addr} {l : List F}
theorem RdF.len (h : RdF w B A n c l) : l.length = n := h.1
theorem RdF.nil (w : World) (B : Nat) : RdF w B none 0 0 [] := ⟨rfl, Nat.le_refl _, Nat.zero_le _, fun h => absurd h (by omega)⟩
theorem RdF.keep (h : RdF w B A n c l) (hk : ∀ p : Addr, p.block < B → w'.cell? p = w.cell? p) : RdF w' B A n c l :=
  ⟨h.1, h.2.1, h.2.2.1, fun hn => by
    obtain ⟨b, off, e, hb, hc⟩ := h.2.2.2 hn
    exact ⟨b, off, e, hb, fun j u hu => (hk ⟨b, off + j, none⟩ hb).trans (hc j u hu)⟩⟩
theorem RdF.more (h : RdF w B A n c l) (hB : B ≤ B') : RdF w B' A n c l :=
  ⟨h.1, h.2.1, h.2.2.1, fun hn => by
    obtain ⟨b, off, e, hb, hc⟩ := h.2.2.2 hn
    exact ⟨b, off, e, by omega, hc⟩⟩
theorem RdF.below (h : RdF w B A n c l) (hb : Below B w w') : RdF w' B A n c l := h.keep fun _ hp => hb.cell hp
theorem RdF.belowS (h : RdF w w.heap.size A n c l) (hb : Below w.heap.size w w') : RdF w' w'.heap.size A n c l := (h.below hb).more hb.size
theorem RdF.drewN (h : RdF w B A n c l) (k : Nat) : RdF (w.drewN k) B A n c l := h
theorem RdF.alloc (h : RdF w B A n c l) (hB : B ≤ w.heap.size) (o : Obj) : RdF (w.alloc o) B A n c l := h.keep fun p hp => World.cell?_alloc_lt w o p (by omega)
theorem RdF.at_ (h : RdF w B A n c l) {i : Nat} {f : F} (hi : l[i]? = some f) :
    ∃ b off, A = some ⟨b, off, none⟩ ∧ b < B ∧ w.cell? ⟨b, off + i * 2, none⟩ = some (.string f.1) ∧ w.cell? ⟨b, off + i * 2 + 1, none⟩ = some (.string f.2) := by
  have hl : i < l.length := (List.getElem?_eq_some_iff.1 hi).1
  obtain ⟨b, off, e, hb, hc⟩ := h.2.2.2 (by have := h.1; omega)
  exact ⟨b, off, e, hb, hc _ _ (fcells_at hi).1, by rw [Nat.add_assoc]; exact hc _ _ (fcells_at hi).2⟩
/-- The address, and every cell at it. -/
theorem RdF.cells (h : RdF w B A n c l) (hn : 0 < n) :
    ∃ b off, A = some ⟨b, off, none⟩ ∧ b < B ∧ ∀ i f, l[i]? = some f → w.cell? ⟨b, off + i * 2, none⟩ = some (.string f.1) ∧ w.cell? ⟨b, off + i * 2 + 1, none⟩ = some (.string f.2) := by
  obtain ⟨b, off, e, hb, hc⟩ := h.2.2.2 hn
  exact ⟨b, off, e, hb, fun i f hi => ⟨hc _ _ (fcells_at hi).1, by rw [Nat.add_assoc]; exact hc _ _ (fcells_at hi).2⟩⟩
theorem RdF.take (h : RdF w B A n c l) {k : Nat} (hk : k ≤ n) : RdF w B A k c (l.take k) := by
  refine ⟨by rw [List.length_take, h.1]; omega, by have := h.2.1; omega, h.2.2.1, fun hn => ?_⟩
  obtain ⟨b, off, e, hb, hc⟩ := h.2.2.2 (by omega)
  refine ⟨b, off, e, hb, fun j u hu => hc j u ?_⟩
  rw [← fcells_take, List.getElem?_take] at hu
  split at hu
  · exact hu
  · cases hu
theorem RdF.drop (h : RdF w B A n c l) {k : Nat} (hk : k ≤ n) : RdF w B (if c = k then A else A.map (·.add (k * 2))) (n - k) (c - k) (l.drop k) := by
  refine ⟨by rw [List.length_drop, h.1], by have := h.2.1; omega, by have := h.2.2.1; omega, fun hn => ?_⟩
  obtain ⟨b, off, e, hb, hc⟩ := h.2.2.2 (by omega)
  have hc2 := h.2.1
  rw [if_neg (by omega)]
  refine ⟨b, off + k * 2, by rw [e]; exact congrArg some (Go.WideShapes.add_plain b off (k * 2)), hb, fun j u hu => ?_⟩
  rw [← fcells_drop, List.getElem?_drop] at hu
  rw [Nat.add_assoc]
  exact hc _ u hu
theorem RdF.of_own {base : Nat} {e : TypeId} {v : Value} (h : w.ownsRow base e 2 v n (fcells l)) : ∃ A c, v = .slice A n c ∧ RdF w w.heap.size A n c l := by
  have hl : l.length = n := by have := h.1; rw [fcells_len] at this; omega
  rcases h.2 with ⟨rfl, rfl⟩ | ⟨g, cap, cur, rfl, hb, hh, hn, hm, hs, ht⟩
  · obtain rfl : l = [] := List.eq_nil_of_length_eq_zero hl
    exact ⟨none, 0, rfl, RdF.nil _ _⟩
  · refine ⟨_, cap, rfl, hl, hn, hm, fun _ => ⟨g, 0, rfl, (Array.getElem?_eq_some_iff.1 hh).1, fun j u hu => ?_⟩⟩
    have := h.cells (g := g) rfl j u hu
    rwa [Go.WideShapes.add_plain] at this
end

section
variable {P : Program} (w : World)
/-- append(v, s...), v a row of the call's own, s a slice that reads as files (nil, empty or not). -/
theorem run_append_files (base : Nat) (t ty e : TypeId) (i : TypeInfo) (z : Value) (bytes : Nat) (ht : P.underlying t = some (.slice e)) (hi : P.info? e = some i) (hz : i.zero = some z)
    (hsize : i.size = 2) (hby : i.bytes = bytes) (hzs : z.cells.size = 2)
    (v : Value) (n : Nat) (l : List F) (hown : w.ownsRow base e 2 v n (fcells l))
    (B : Nat) (A : Option Addr) (m c : Nat) (r : List F) (hr : RdF w B A m c r)
    (h63 : n + m ≤ maxLen) (hbytes : (n + m) * bytes ≤ 140737488355328) (hbase : base ≤ w.heap.size) :
    ∃ v' w', (Builtin.append_ #[t, t] ty #[v, .slice A m c]).run P w = .ok v' w' ∧ w'.ownsRow base e 2 v' (n + m) (fcells (l ++ r)) ∧ w.grownBy w' v.ownBlock := by
  rcases A with _ | ad
  · have hm : m = 0 := by
      rcases Nat.eq_zero_or_pos m with h0 | h0
      · exact h0
      · obtain ⟨b, off, h, _⟩ := hr.2.2.2 h0
        cases h
    subst hm
    have hn : r = [] := List.eq_nil_of_length_eq_zero hr.1
    subst hn
    refine ⟨v, w, ?_, by simpa using hown, World.grownBy.refl w _⟩
    rcases hown.2 with ⟨rfl, rfl⟩ | ⟨g, cap, cur, rfl, _, _, hnc, _⟩
    · simp [Builtin.append_, run_underlying ht, sizeOf, typeInfo, hi, Builtin.lenOf, Builtin.firstCells]
    · simp [Builtin.append_, run_underlying ht, sizeOf, typeInfo, hi, Builtin.lenOf, Builtin.firstCells, hnc, storeCells]
  · have hcells : ∀ j u, (fcells r)[j]? = some u → w.cell? (ad.add j) = some u := by
      intro j u hu
      rcases Nat.eq_zero_or_pos m with h0 | h0
      · have hn : r = [] := List.eq_nil_of_length_eq_zero (by rw [hr.1, h0])
        subst hn
        simp [fcells] at hu
      · obtain ⟨b, off, h, _, hc⟩ := hr.2.2.2 h0
        injection h with h
        subst h
        rw [Go.WideShapes.add_plain]
        exact hc j u hu
    obtain ⟨v', w', hrun, h2, h3, _, _⟩ := run_append_own_at (P := P) w base t ty e i z 2 bytes ht hi hz hsize hby hzs (by omega) v n (fcells l) hown ad m c (fcells r) (by rw [fcells_len, hr.1]) hcells (fcells_one r) h63 hbytes hbase
    exact ⟨v', w', hrun, by rw [fcells_append]; exact h2, h3⟩

theorem wp_append_files {o : Oper} {a : Act} {K : Act → World → Prop} {Q : Exit → Act → World → Prop} (s x : Operand) (t : TypeId)
    (ho : o.op = .call { callee := .builtin .append, args := #[s, x], argTypes := #[t, t] })
    (base : Nat) (e : TypeId) (i : TypeInfo) (z : Value) (bytes : Nat) (ht : P.underlying t = some (.slice e)) (hi : P.info? e = some i) (hz : i.zero = some z)
    (hsize : i.size = 2) (hby : i.bytes = bytes) (hzs : z.cells.size = 2)
    (v : Value) (n : Nat) (l : List F) (hs : a.eval s = v) (hown : w.ownsRow base e 2 v n (fcells l))
    (B : Nat) (A : Option Addr) (m c : Nat) (r : List F) (hx : a.eval x = .slice A m c) (hr : RdF w B A m c r)
    (h63 : n + m ≤ maxLen) (hbytes : (n + m) * bytes ≤ 140737488355328) (hbase : base ≤ w.heap.size)
    (h : ∀ v' w', w'.ownsRow base e 2 v' (n + m) (fcells (l ++ r)) → w.grownBy w' v.ownBlock → K (a.put o.dst v') w') : o.wp P a w K Q := by
  obtain ⟨v', w', hrun, h2, h3⟩ := run_append_files (P := P) w base t o.type e i z bytes ht hi hz hsize hby hzs v n l hown B A m c r hr h63 hbytes hbase
  unfold Oper.wp execOp
  simp only [ho, resolve, invoke, builtin, Sem.run_bind, Sem.run_pure, Result.andThen_ok, List.map_toArray, List.map_cons, List.map_nil, hs, hx, hrun]
  exact h v' w' h2 h3

theorem wpList_append_files {ops : Array Oper} {rest : List Oper} {o : Oper} {a : Act} {Q : Exit → Act → World → Prop} (hgd : o.guard = none) (s x : Operand) (t : TypeId)
    (ho : o.op = .call { callee := .builtin .append, args := #[s, x], argTypes := #[t, t] })
    (base : Nat) (e : TypeId) (i : TypeInfo) (z : Value) (bytes : Nat) (ht : P.underlying t = some (.slice e)) (hi : P.info? e = some i) (hz : i.zero = some z)
    (hsize : i.size = 2) (hby : i.bytes = bytes) (hzs : z.cells.size = 2)
    (v : Value) (n : Nat) (l : List F) (hs : a.eval s = v) (hown : w.ownsRow base e 2 v n (fcells l))
    (B : Nat) (A : Option Addr) (m c : Nat) (r : List F) (hx : a.eval x = .slice A m c) (hr : RdF w B A m c r)
    (h63 : n + m ≤ maxLen) (hbytes : (n + m) * bytes ≤ 140737488355328) (hbase : base ≤ w.heap.size)
    (h : ∀ v' w', w'.ownsRow base e 2 v' (n + m) (fcells (l ++ r)) → w.grownBy w' v.ownBlock → wpList P ops Q rest (a.put o.dst v') w') : wpList P ops Q (o :: rest) a w :=
  wpList_plain hgd fun _ hK => wp_append_files w s x t ho base e i z bytes ht hi hz hsize hby hzs v n l hs hown B A m c r hx hr h63 hbytes hbase fun v' w' h2 h3 => hK _ _ (h v' w' h2 h3)
end
end Go.Proofs.Ytlkpbpecgdphaaa
