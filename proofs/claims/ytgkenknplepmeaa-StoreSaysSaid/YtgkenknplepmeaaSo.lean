/-
  PLAIN FACTS ON A STABLE SORT OF CHANGES IN AN ARRAY, under no condition on any program: insertion, exchange of ranges, rotation, symmetric merging, blocks: what each leaves.
-/
import Derived.Test.YtgkenknplepmeaaAp
import Derived.Sort.WalkA
import Derived.Sort.LotA
namespace Go.Proofs.Ytgkenknplepmeaa
open Go.Sort

instance : Inhabited Ch := ⟨⟨ByteArray.empty, ByteArray.empty, false⟩⟩
def ltC (x y : Ch) : Bool := lt x.key y.key
theorem leC_eq (x y : Ch) : leC x y = !ltC y x := rfl
/-- A piece of an array, as a list. -/
def sg (d : Array Ch) (a n : Nat) : List Ch := seg (fun i => d[i]!) a n
/-- Nothing has changed outside [a, b). -/
structure Turns (a b : Nat) (d d' : Array Ch) : Prop where
  size : d'.size = d.size
  out : ∀ i, i < a ∨ b ≤ i → d'[i]! = d[i]!
theorem Turns.refl (a b : Nat) (d : Array Ch) : Turns a b d d := ⟨rfl, fun _ _ => rfl⟩
theorem Turns.trans {a b : Nat} {d d1 d2 : Array Ch} (h : Turns a b d d1) (h2 : Turns a b d1 d2) : Turns a b d d2 := ⟨h2.size.trans h.size, fun i hi => (h2.out i hi).trans (h.out i hi)⟩
theorem Turns.mono {a b a' b' : Nat} {d d' : Array Ch} (h : Turns a b d d') (ha : a' ≤ a) (hb : b ≤ b') : Turns a' b' d d' := ⟨h.size, fun i hi => h.out i (by omega)⟩
theorem Turns.sg {a b : Nat} {d d' : Array Ch} (h : Turns a b d d') (x n : Nat) (hx : x + n ≤ a ∨ b ≤ x) : Go.Proofs.Ytgkenknplepmeaa.sg d' x n = Go.Proofs.Ytgkenknplepmeaa.sg d x n := seg_congr fun i hi => h.out _ (by omega)
theorem sg_add (d : Array Ch) (a n m : Nat) : sg d a (n + m) = sg d a n ++ sg d (a + n) m := seg_add _ _ _ _
theorem sg_cut (d : Array Ch) {a m b : Nat} (h1 : a ≤ m) (h2 : m ≤ b) : sg d a (b - a) = sg d a (m - a) ++ sg d m (b - m) := by
  have := sg_add d a (m - a) (b - m)
  rwa [show m - a + (b - m) = b - a by omega, show a + (m - a) = m by omega] at this
theorem sg_zero (d : Array Ch) (a : Nat) : sg d a 0 = [] := rfl
theorem sg_one (d : Array Ch) (a : Nat) : sg d a 1 = [d[a]!] := by simp [sg, seg]
theorem sg_len (d : Array Ch) (a n : Nat) : (sg d a n).length = n := seg_length _ _ _
theorem sg_mem {d : Array Ch} {a n : Nat} {x : Ch} (h : x ∈ sg d a n) : ∃ i, a ≤ i ∧ i < a + n ∧ x = d[i]! := by
  obtain ⟨i, hi, e⟩ := seg_mem h
  exact ⟨a + i, by omega, by omega, e⟩
def Srt (d : Array Ch) (a b : Nat) : Prop := ∀ i j, a ≤ i → i < j → j < b → leC d[i]! d[j]! = true
theorem Srt.of {d : Array Ch} {a b : Nat} (h : (sg d a (b - a)).Pairwise fun x y => leC x y = true) : Srt d a b := fun i j hi hij hj => by
  have := seg_sorted (g := fun i => d[i]!) h (i := i - a) (j := j - a) (by omega) (by omega)
  simpa [show a + (i - a) = i by omega, show a + (j - a) = j by omega] using this
theorem Srt.pw {d : Array Ch} {a b : Nat} (h : Srt d a b) : (sg d a (b - a)).Pairwise fun x y => leC x y = true := by
  rw [List.pairwise_iff_getElem]
  intro i j hi hj hij
  rw [sg_len] at hi hj
  have := h (a + i) (a + j) (by omega) (by omega) (by omega)
  simpa [sg, seg] using this
theorem Srt.sub {d : Array Ch} {a b a' b' : Nat} (h : Srt d a b) (ha : a ≤ a') (hb : b' ≤ b) : Srt d a' b' := fun i j hi hij hj => h i j (by omega) hij (by omega)
theorem leC_refl (x : Ch) : leC x x = true := by unfold leC; rw [lt_irrefl]; rfl
theorem Srt.le {d : Array Ch} {a b : Nat} (h : Srt d a b) {i j : Nat} (hi : a ≤ i) (hij : i ≤ j) (hj : j < b) : leC d[i]! d[j]! = true := by
  rcases Nat.lt_or_ge i j with e | e
  · exact h i j hi e hj
  · obtain rfl : i = j := by omega
    exact leC_refl _
theorem swp_turns (d : Array Ch) {i j a b : Nat} (hi : i < d.size) (hj : j < d.size) (h1 : a ≤ i) (h2 : i < b) (h3 : a ≤ j) (h4 : j < b) : Turns a b d (swp d i j) :=
  ⟨swp_size d i j, fun k hk => by rw [swp_get d hi hj, if_neg (by omega), if_neg (by omega)]⟩

/-- Insertion of one element. -/
theorem insInner_turns (a : Nat) : ∀ (j : Nat) (d : Array Ch), j < d.size → a ≤ j → Turns a (j + 1) d (insInner ltC a j d)
  | 0, d, _, _ => by rw [insInner]; exact Turns.refl _ _ _
  | j + 1, d, hj, ha => by
    rw [insInner]
    split
    · rename_i h
      simp only [gt_iff_lt, Bool.and_eq_true, decide_eq_true_eq] at h
      have h1 := swp_turns d (i := j + 1) (j := j) (a := a) (b := j + 2) hj (by omega) (by omega) (by omega) (by omega) (by omega)
      have h2 := insInner_turns a j (swp d (j + 1) j) (by rw [swp_size]; omega) (by omega)
      exact h1.trans (h2.mono (Nat.le_refl _) (by omega))
    · exact Turns.refl _ _ _
theorem insInner_merge (a : Nat) : ∀ (j : Nat) (d : Array Ch), j < d.size → a ≤ j → Srt d a j → sg (insInner ltC a j d) a (j + 1 - a) = List.merge (sg d a (j - a)) [d[j]!] leC
  | 0, d, _, ha, _ => by
    obtain rfl : a = 0 := by omega
    rw [insInner]; simp [sg_zero, sg_one]
  | j + 1, d, hj, ha, hs => by
    rcases Nat.lt_or_ge j a with haj | haj
    · obtain rfl : a = j + 1 := by omega
      rw [insInner_stop ltC _ _ _ (.inl (Nat.le_refl _))]
      rw [show j + 1 + 1 - (j + 1) = 1 by omega, show j + 1 - (j + 1) = 0 by omega, sg_zero, sg_one]; simp
    · cases hl : ltC d[j + 1]! d[j]! with
      | true =>
        have e := insInner_go ltC a (j + 1) d (by omega) (by simpa using hl)
        simp only [Nat.add_sub_cancel] at e
        rw [e]
        have hs1 : (swp d (j + 1) j).size = d.size := swp_size _ _ _
        have g := fun k => swp_get d (i := j + 1) (j := j) hj (by omega) k
        have ih := insInner_merge a j (swp d (j + 1) j) (by omega) haj (fun x y hx hxy hy => by
          rw [g, g, if_neg (by omega), if_neg (by omega), if_neg (by omega), if_neg (by omega)]; exact hs x y hx hxy (by omega))
        have ht := insInner_turns a j (swp d (j + 1) j) (by omega) haj
        rw [show j + 1 + 1 - a = (j + 1 - a) + 1 by omega, sg_add, ih, show a + (j + 1 - a) = j + 1 by omega, sg_one, ht.out (j + 1) (.inr (Nat.le_refl _)), g (j + 1), if_neg (by omega), if_pos rfl, g j, if_pos rfl]
        rw [show sg (swp d (j + 1) j) a (j - a) = sg d a (j - a) from seg_congr fun i hi => by rw [g, if_neg (by omega), if_neg (by omega)]]
        rw [show j + 1 - a = (j - a) + 1 by omega, sg_add, show a + (j - a) = j by omega, sg_one]
        have := merge_split (le := leC) (sg d a (j - a)) [d[j]!] [d[j + 1]!] [] (by simp) (by simp [leC_eq, hl])
        simpa using this.symm
      | false =>
        rw [insInner_stop ltC _ _ _ (.inr (by simpa using hl))]
        have hle : ∀ x ∈ sg d a (j + 1 - a), leC x d[j + 1]! = true := fun x hx => by
          obtain ⟨i, h1, h2, rfl⟩ := sg_mem hx
          exact leC_trans _ _ _ (hs.le h1 (by omega) (show j < j + 1 by omega)) (by rw [leC_eq, hl]; rfl)
        have := merge_one_right (le := leC) d[j + 1]! (sg d a (j + 1 - a)) [] hle (by simp)
        rw [List.append_nil] at this
        rw [this, show j + 1 + 1 - a = (j + 1 - a) + 1 by omega, sg_add, show a + (j + 1 - a) = j + 1 by omega, sg_one]
/-- Sorted, as the row was: by keys, what has one key in its old order. -/
abbrev SO (l s : List Ch) : Prop := SortOf leC keyIs l s
theorem SO.merge {l1 l2 s1 s2 : List Ch} (h1 : SO l1 s1) (h2 : SO l2 s2) : SO (l1 ++ l2) (List.merge s1 s2 leC) := SortOf.merge leC_trans leC_total leC_key h1 h2
theorem insOuter_sorts (a b : Nat) (d0 : Array Ch) (hb : b ≤ d0.size) : ∀ (n i : Nat) (d : Array Ch), n = b - i → a < i → i ≤ b → Turns a b d0 d → (∀ k, i ≤ k → d[k]! = d0[k]!) → SO (sg d0 a (i - a)) (sg d a (i - a)) →
    Turns a b d0 (insOuter ltC a b i d) ∧ SO (sg d0 a (b - a)) (sg (insOuter ltC a b i d) a (b - a))
  | 0, i, d, hn, _, hi, ht, _, hs => by
    obtain rfl : i = b := by omega
    rw [insOuter_stop _ _ _ _ _ (by omega)]
    exact ⟨ht, hs⟩
  | n + 1, i, d, hn, hai, hi, ht, hr, hs => by
    rw [insOuter_go _ _ _ _ _ (by omega)]
    have hz := ht.size
    have h1 := insInner_turns a i d (by omega) (by omega)
    have h2 := insInner_merge a i d (by omega) (by omega) (Srt.of hs.sorted)
    refine insOuter_sorts a b d0 hb n (i + 1) _ (by omega) (by omega) (by omega) (ht.trans (h1.mono (Nat.le_refl _) (by omega))) (fun k hk => ?_) ?_
    · rw [h1.out k (.inr hk), hr k (by omega)]
    · rw [h2, show i + 1 - a = (i - a) + 1 by omega, sg_add, show a + (i - a) = i by omega, sg_one, hr i (Nat.le_refl _)]
      exact hs.merge (SortOf.one _)
theorem ins_sorts (a b : Nat) (d : Array Ch) (hb : b ≤ d.size) (hab : a ≤ b) : Turns a b d (insertionSort ltC d a b) ∧ SO (sg d a (b - a)) (sg (insertionSort ltC d a b) a (b - a)) := by
  unfold insertionSort
  rcases Nat.lt_or_ge a b with h | h
  · exact insOuter_sorts a b d hb _ (a + 1) d rfl (by omega) (by omega) (Turns.refl _ _ _) (fun _ _ => rfl) (by rw [show a + 1 - a = 1 by omega]; rw [sg_one]; exact SortOf.one _)
  · obtain rfl : a = b := by omega
    rw [insOuter_stop _ _ _ _ _ (by omega), Nat.sub_self]
    exact ⟨Turns.refl _ _ _, SortOf.nil⟩

/-- Two ranges of n places, exchanged. -/
def Swr (a b n : Nat) (d d' : Array Ch) : Prop := d'.size = d.size ∧ ∀ x, d'[x]! = if a ≤ x ∧ x < a + n then d[x - a + b]! else if b ≤ x ∧ x < b + n then d[x - b + a]! else d[x]!
theorem Swr.zero (a b : Nat) (d : Array Ch) : Swr a b 0 d d := ⟨rfl, fun x => by rw [if_neg (by omega), if_neg (by omega)]⟩
theorem Swr.step {a b n : Nat} {d d' : Array Ch} (h : Swr a b n d d') (hab : a + n < b) (hb : b + n < d.size) : Swr a b (n + 1) d (swp d' (a + n) (b + n)) := by
  have hz := h.1
  refine ⟨(swp_size _ _ _).trans hz, fun x => ?_⟩
  rw [swp_get d' (by omega) (by omega), h.2, h.2, h.2]
  by_cases e1 : x = b + n
  · subst e1
    rw [if_pos rfl, if_neg (by omega), if_neg (by omega), if_neg (by omega), if_pos (by omega)]
    congr 1; omega
  · rw [if_neg e1]
    by_cases e2 : x = a + n
    · subst e2
      rw [if_pos rfl, if_neg (by omega), if_neg (by omega), if_pos (by omega)]
      congr 1; omega
    · rw [if_neg e2]
      by_cases e3 : a ≤ x ∧ x < a + n
      · rw [if_pos e3, if_pos (by omega)]
      · by_cases e4 : b ≤ x ∧ x < b + n
        · rw [if_neg e3, if_pos e4, if_neg (by omega), if_pos (by omega)]
        · rw [if_neg e3, if_neg e4, if_neg (by omega), if_neg (by omega)]
theorem Swr.turns {a b n : Nat} {d d' : Array Ch} (h : Swr a b n d d') (hab : a + n ≤ b) : Turns a (b + n) d d' := ⟨h.1, fun i hi => by rw [h.2, if_neg (by omega), if_neg (by omega)]⟩
theorem Swr.left {a b n : Nat} {d d' : Array Ch} (h : Swr a b n d d') : sg d' a n = sg d b n := seg_congr fun i hi => by
  rw [h.2, if_pos (by omega)]; congr 1; omega
theorem Swr.right {a b n : Nat} {d d' : Array Ch} (h : Swr a b n d d') (hab : a + n ≤ b) : sg d' b n = sg d a n := seg_congr fun i hi => by
  rw [h.2, if_neg (by omega), if_pos (by omega)]; congr 1; omega
theorem Swr.else {a b n : Nat} {d d' : Array Ch} (h : Swr a b n d d') (x m : Nat) (h1 : x + m ≤ a ∨ a + n ≤ x) (h2 : x + m ≤ b ∨ b + n ≤ x) : sg d' x m = sg d x m := seg_congr fun i hi => by
  rw [h.2, if_neg (by omega), if_neg (by omega)]

/-- On the way of a rotation: [m - i, m + j) is still to be turned; the rest is as it shall be. -/
structure Rot (a m b i j : Nat) (d0 d : Array Ch) : Prop where
  turns : Turns a b d0 d
  i0 : 0 < i
  j0 : 0 < j
  ia : a + i ≤ m
  jb : m + j ≤ b
  eq : sg d a (m - i - a) ++ ((sg d m j ++ sg d (m - i) i) ++ sg d (m + j) (b - (m + j))) = sg d0 m (b - m) ++ sg d0 a (m - a)
theorem Rot.start {a m b : Nat} (d : Array Ch) (h1 : a < m) (h2 : m < b) : Rot a m b (m - a) (b - m) d d :=
  ⟨Turns.refl _ _ _, by omega, by omega, by omega, by omega, by
    rw [show m - (m - a) - a = 0 by omega, show m - (m - a) = a by omega, show b - (m + (b - m)) = 0 by omega, sg_zero, sg_zero]; simp⟩
theorem Rot.more {a m b i j : Nat} {d0 d d' : Array Ch} (h : Rot a m b i j d0 d) (hij : j < i) (hs : Swr (m - i) m j d d') : Rot a m b (i - j) j d0 d' := by
  have ha := h.ia
  have hb := h.jb
  refine ⟨h.turns.trans ((hs.turns (by omega)).mono (by omega) (by omega)), by omega, h.j0, by omega, hb, ?_⟩
  rw [← h.eq]
  rw [show m - (i - j) - a = (m - i - a) + j by omega, sg_add, show a + (m - i - a) = m - i by omega, hs.left, hs.else a (m - i - a) (by omega) (by omega), hs.right (by omega)]
  rw [hs.else (m - (i - j)) (i - j) (by omega) (by omega), hs.else (m + j) _ (by omega) (by omega)]
  have : sg d (m - i) i = sg d (m - i) j ++ sg d (m - (i - j)) (i - j) := by
    have := sg_add d (m - i) j (i - j)
    rwa [show j + (i - j) = i by omega, show m - i + j = m - (i - j) by omega] at this
  rw [this]; simp [List.append_assoc]
theorem Rot.less {a m b i j : Nat} {d0 d d' : Array Ch} (h : Rot a m b i j d0 d) (hij : i < j) (hs : Swr (m - i) (m + j - i) i d d') : Rot a m b i (j - i) d0 d' := by
  have ha := h.ia
  have hb := h.jb
  refine ⟨h.turns.trans ((hs.turns (by omega)).mono (by omega) (by omega)), h.i0, by omega, ha, by omega, ?_⟩
  rw [← h.eq]
  rw [hs.left, hs.else a (m - i - a) (by omega) (by omega), hs.else m (j - i) (by omega) (by omega)]
  have e1 : sg d' (m + (j - i)) (b - (m + (j - i))) = sg d (m - i) i ++ sg d (m + j) (b - (m + j)) := by
    have := sg_add d' (m + j - i) i (b - (m + j))
    rw [hs.right (by omega), show m + j - i + i = m + j by omega, hs.else (m + j) _ (by omega) (by omega)] at this
    rw [show m + (j - i) = m + j - i by omega, show b - (m + j - i) = i + (b - (m + j)) by omega]
    exact this
  have e2 : sg d m j = sg d m (j - i) ++ sg d (m + j - i) i := by
    have := sg_add d m (j - i) i
    rwa [show j - i + i = j by omega, show m + (j - i) = m + j - i by omega] at this
  rw [e1, e2]; simp [List.append_assoc]
/-- A rotation. -/
structure Rotd (a m b : Nat) (d d' : Array Ch) : Prop where
  turns : Turns a b d d'
  eq : sg d' a (b - a) = sg d m (b - m) ++ sg d a (m - a)
theorem Rot.done {a m b i : Nat} {d0 d d' : Array Ch} (h : Rot a m b i i d0 d) (hs : Swr (m - i) m i d d') : Rotd a m b d0 d' := by
  have ha := h.ia
  have hb := h.jb
  refine ⟨h.turns.trans ((hs.turns (by omega)).mono (by omega) (by omega)), ?_⟩
  rw [← h.eq]
  rw [sg_cut d' (a := a) (m := m - i) (b := b) (by omega) (by omega), sg_cut d' (a := m - i) (m := m) (b := b) (by omega) (by omega), sg_cut d' (a := m) (m := m + i) (b := b) (by omega) (by omega)]
  rw [show m - (m - i) = i by omega, show m + i - m = i by omega, hs.left, hs.right (by omega), hs.else a (m - i - a) (by omega) (by omega), hs.else (m + i) _ (by omega) (by omega)]
  simp [List.append_assoc]

/-- A merge of [a, m) and [m, b). -/
structure Mrg (a m b : Nat) (d d' : Array Ch) : Prop where
  turns : Turns a b d d'
  eq : sg d' a (b - a) = List.merge (sg d a (m - a)) (sg d m (b - m)) leC
/-- One element, carried from place a to place i - 1. -/
structure Up (a i : Nat) (d d' : Array Ch) (k : Nat) : Prop where
  turns : Turns a i d d'
  le : a ≤ k
  eq : sg d' a (k - a) = sg d (a + 1) (k - a)
  at_ : d'[k]! = d[a]!
  rest : ∀ x, k < x → d'[x]! = d[x]!
theorem Up.start (a i : Nat) (d : Array Ch) : Up a i d d a := ⟨Turns.refl _ _ _, Nat.le_refl _, by rw [Nat.sub_self]; rfl, rfl, fun _ _ => rfl⟩
theorem Up.step {a i k : Nat} {d d' : Array Ch} (h : Up a i d d' k) (hk : k + 1 < i) (hi : i ≤ d.size) : Up a i d (swp d' k (k + 1)) (k + 1) := by
  have hz := h.turns.size
  have hl := h.le
  have g := fun x => swp_get d' (i := k) (j := k + 1) (by omega) (by omega) x
  refine ⟨h.turns.trans (swp_turns d' (by omega) (by omega) hl (by omega) (by omega) hk), by omega, ?_, ?_, fun x hx => ?_⟩
  · rw [show k + 1 - a = (k - a) + 1 by omega, sg_add, sg_add, ← h.eq, show a + (k - a) = k by omega, sg_one, show a + 1 + (k - a) = k + 1 by omega, sg_one, g, if_neg (by omega), if_pos rfl, h.rest _ (by omega)]
    congr 1
    exact seg_congr fun x hx => by rw [g, if_neg (by omega), if_neg (by omega)]
  · rw [g, if_pos rfl, h.at_]
  · rw [g, if_neg (by omega), if_neg (by omega), h.rest x (by omega)]
theorem Up.done {a m b i : Nat} {d d' : Array Ch} (h : Up a i d d' (i - 1)) (hm : m = a + 1) (h1 : m ≤ i) (h2 : i ≤ b) (hlo : ∀ x, m ≤ x → x < i → ltC d[x]! d[a]! = true) (hhi : ∀ x, i ≤ x → x < b → ltC d[x]! d[a]! = false) : Mrg a m b d d' := by
  subst hm
  refine ⟨h.turns.mono (Nat.le_refl _) h2, ?_⟩
  rw [sg_cut d' (a := a) (m := i - 1) (b := b) (by omega) (by omega), h.eq, sg_cut d' (a := i - 1) (m := i) (b := b) (by omega) (by omega), show i - (i - 1) = 1 by omega, sg_one, h.at_, h.turns.sg i _ (.inr (Nat.le_refl _))]
  rw [show a + 1 - a = 1 by omega, sg_one, sg_cut d (a := a + 1) (m := i) (b := b) h1 h2, show i - 1 - a = i - (a + 1) by omega]
  have := merge_one_left (le := leC) d[a]! (sg d (a + 1) (i - (a + 1))) (sg d i (b - i)) (fun y hy => by
    obtain ⟨x, h3, h4, rfl⟩ := sg_mem hy
    rw [leC_eq, hlo x h3 (by omega)]; rfl) (fun y hy => by
    obtain ⟨x, h3, h4, rfl⟩ := sg_mem hy
    rw [leC_eq, hhi x h3 (by omega)]; rfl)
  rw [this]; rfl
/-- One element, carried from place m down to place i. -/
structure Dn (i m : Nat) (d d' : Array Ch) (k : Nat) : Prop where
  turns : Turns i (m + 1) d d'
  le : k ≤ m
  eq : sg d' (k + 1) (m - k) = sg d k (m - k)
  at_ : d'[k]! = d[m]!
  rest : ∀ x, x < k → d'[x]! = d[x]!
theorem Dn.start (i m : Nat) (d : Array Ch) : Dn i m d d m := ⟨Turns.refl _ _ _, Nat.le_refl _, by rw [Nat.sub_self]; rfl, rfl, fun _ _ => rfl⟩
theorem Dn.step {i m k : Nat} {d d' : Array Ch} (h : Dn i m d d' (k + 1)) (hk : i < k + 1) (hm : m < d.size) : Dn i m d (swp d' (k + 1) k) k := by
  have hz := h.turns.size
  have hl := h.le
  have g := fun x => swp_get d' (i := k + 1) (j := k) (by omega) (by omega) x
  refine ⟨h.turns.trans (swp_turns d' (by omega) (by omega) (by omega) (by omega) (by omega) (by omega)), by omega, ?_, ?_, fun x hx => ?_⟩
  · rw [show m - k = 1 + (m - (k + 1)) by omega, sg_add, sg_add, ← h.eq, sg_one, sg_one, g, if_neg (by omega), if_pos rfl, h.rest _ (by omega)]
    congr 1
    exact seg_congr fun x hx => by rw [g, if_neg (by omega), if_neg (by omega)]
  · rw [g, if_pos rfl, h.at_]
  · rw [g, if_neg (by omega), if_neg (by omega), h.rest x (by omega)]
theorem Dn.done {a m b i : Nat} {d d' : Array Ch} (h : Dn i m d d' i) (hb : b = m + 1) (h1 : a ≤ i) (h2 : i ≤ m) (hlo : ∀ x, a ≤ x → x < i → ltC d[m]! d[x]! = false) (hhi : ∀ x, i ≤ x → x < m → ltC d[m]! d[x]! = true) : Mrg a m b d d' := by
  subst hb
  refine ⟨h.turns.mono h1 (Nat.le_refl _), ?_⟩
  rw [sg_cut d' (a := a) (m := i) (b := m + 1) (by omega) (by omega), h.turns.sg a _ (by omega), sg_cut d' (a := i) (m := i + 1) (b := m + 1) (by omega) (by omega), show i + 1 - i = 1 by omega, sg_one, h.at_, show m + 1 - (i + 1) = m - i by omega, h.eq]
  rw [show m + 1 - m = 1 by omega, sg_one, sg_cut d (a := a) (m := i) (b := m) h1 h2]
  have := merge_one_right (le := leC) d[m]! (sg d a (i - a)) (sg d i (m - i)) (fun y hy => by
    obtain ⟨x, h3, h4, rfl⟩ := sg_mem hy
    rw [leC_eq, hlo x h3 (by omega)]; rfl) (fun y hy => by
    obtain ⟨x, h3, h4, rfl⟩ := sg_mem hy
    rw [leC_eq, hhi x h3 (by omega)]; rfl)
  rw [this]; rfl
/-- The general step: where the halves are cut. -/
theorem Mrg.whole {a m b mid s e : Nat} {d d1 d2 d3 : Array Ch} (he : s + e = mid + m) (hs1 : a ≤ s) (hs2 : s ≤ m) (he1 : m ≤ e) (he2 : e ≤ b) (ham : a ≤ mid) (hmb : mid ≤ b)
    (h12 : ∀ x y, a ≤ x → x < s → e ≤ y → y < b → leC d[x]! d[y]! = true) (h21 : ∀ x y, s ≤ x → x < m → m ≤ y → y < e → leC d[x]! d[y]! = false)
    (hr : Rotd s m e d d1) (hl : Mrg a s mid d1 d2) (hh : Mrg mid e b d2 d3) : Mrg a m b d d3 := by
  refine ⟨(hr.turns.mono hs1 he2).trans ((hl.turns.mono (Nat.le_refl _) hmb).trans (hh.turns.mono ham (Nat.le_refl _))), ?_⟩
  have hr2 := hr.eq
  rw [sg_cut d1 (a := s) (m := mid) (b := e) (by omega) (by omega)] at hr2
  have hr3 : sg d1 s (mid - s) = sg d m (e - m) ∧ sg d1 mid (e - mid) = sg d s (m - s) := List.append_inj hr2 (by rw [sg_len, sg_len]; omega)
  rw [sg_cut d3 (a := a) (m := mid) (b := b) ham hmb, hh.turns.sg a _ (by omega), hl.eq, hh.eq]
  rw [hl.turns.sg mid _ (by omega), hl.turns.sg e _ (by omega), hr.turns.sg a _ (by omega), hr.turns.sg e _ (by omega), hr3.1, hr3.2]
  rw [sg_cut d (a := a) (m := s) (b := m) hs1 hs2, sg_cut d (a := m) (m := e) (b := b) he1 he2]
  exact (merge_split _ _ _ _ (fun x hx y hy => by
    obtain ⟨i, q1, q2, rfl⟩ := sg_mem hx
    obtain ⟨j, q3, q4, rfl⟩ := sg_mem hy
    exact h12 i j q1 (by omega) q3 (by omega)) (fun x hx y hy => by
    obtain ⟨i, q1, q2, rfl⟩ := sg_mem hx
    obtain ⟨j, q3, q4, rfl⟩ := sg_mem hy
    exact h21 i j q1 (by omega) q3 (by omega))).symm
theorem Mrg.skip_l {m b : Nat} (d : Array Ch) (h : m ≤ b) : Mrg m m b d d := ⟨Turns.refl _ _ _, by rw [Nat.sub_self, sg_zero]; simp⟩
theorem Mrg.skip_r {a b : Nat} (d : Array Ch) (h : a ≤ b) : Mrg a b b d d := ⟨Turns.refl _ _ _, by rw [Nat.sub_self b, sg_zero]; simp⟩
theorem Rotd.skip_l {m b : Nat} (d : Array Ch) (h : m ≤ b) : Rotd m m b d d := ⟨Turns.refl _ _ _, by rw [Nat.sub_self, sg_zero]; simp⟩
theorem Rotd.skip_r {a b : Nat} (d : Array Ch) (h : a ≤ b) : Rotd a b b d d := ⟨Turns.refl _ _ _, by rw [Nat.sub_self b, sg_zero]; simp⟩
theorem leC_ltC {x y z : Ch} (h : leC x y = true) (k : ltC y z = true) : ltC x z = true := by
  cases e : ltC x z with
  | true => rfl
  | false =>
    have h2 : leC z x = true := by rw [leC_eq, e]; rfl
    have := leC_trans _ _ _ h2 h
    rw [leC_eq, k] at this; cases this
theorem ltC_leC {x y z : Ch} (h : ltC x y = true) (k : leC y z = true) : ltC x z = true := by
  cases e : ltC x z with
  | true => rfl
  | false =>
    have h2 : leC z x = true := by rw [leC_eq, e]; rfl
    have := leC_trans _ _ _ k h2
    rw [leC_eq, h] at this; cases this
/-- A merge of two sorted parts, sorted. -/
theorem Mrg.so {a m b : Nat} {d0 d d' : Array Ch} (h : Mrg a m b d d') (h1 : a ≤ m) (h2 : m ≤ b) (hl : SO (sg d0 a (m - a)) (sg d a (m - a))) (hr : SO (sg d0 m (b - m)) (sg d m (b - m))) : SO (sg d0 a (b - a)) (sg d' a (b - a)) := by
  rw [h.eq, sg_cut d0 h1 h2]; exact hl.merge hr
end Go.Proofs.Ytgkenknplepmeaa
