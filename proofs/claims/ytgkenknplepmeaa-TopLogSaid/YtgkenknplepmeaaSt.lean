/-
  PLAIN FACTS ON A STABLE SORT BY MERGING, under no condition on any program: a merge falls apart where what lies left is not greater than what lies right; it keeps the order of what is equal.
-/
import GoSem.Claim
namespace Go.Proofs.Ytgkenknplepmeaa

section
variable {α : Type} {le : α → α → Bool}
theorem merge_split : ∀ (L1 L2 R1 R2 : List α), (∀ x ∈ L1, ∀ y ∈ R2, le x y = true) → (∀ x ∈ L2, ∀ y ∈ R1, le x y = false) →
    List.merge (L1 ++ L2) (R1 ++ R2) le = List.merge L1 R1 le ++ List.merge L2 R2 le
  | [], L2, [], R2, _, _ => by simp
  | [], [], y :: R1, R2, _, _ => by simp
  | [], x :: L2, y :: R1, R2, h1, h2 => by
    have hxy : le x y = false := h2 x (by simp) y (by simp)
    have ih := merge_split [] (x :: L2) R1 R2 h1 (fun a ha b hb => h2 a ha b (by simp [hb]))
    simp only [List.nil_append, List.cons_append] at ih ⊢
    rw [List.cons_merge_cons, if_neg (by simp [hxy]), ih]
    simp
  | x :: L1, L2, [], [], _, _ => by simp
  | x :: L1, L2, [], y :: R2, h1, h2 => by
    have hxy : le x y = true := h1 x (by simp) y (by simp)
    have ih := merge_split L1 L2 [] (y :: R2) (fun a ha b hb => h1 a (by simp [ha]) b hb) h2
    simp only [List.nil_append, List.cons_append] at ih ⊢
    rw [List.cons_merge_cons, if_pos hxy, ih]
    simp
  | x :: L1, L2, y :: R1, R2, h1, h2 => by
    simp only [List.cons_append]
    rw [List.cons_merge_cons, List.cons_merge_cons]
    split
    · have ih := merge_split L1 L2 (y :: R1) R2 (fun a ha b hb => h1 a (by simp [ha]) b hb) h2
      simp only [List.cons_append] at ih ⊢
      rw [ih]
    · have ih := merge_split (x :: L1) L2 R1 R2 h1 (fun a ha b hb => h2 a ha b (by simp [hb]))
      simp only [List.cons_append] at ih ⊢
      rw [ih]
termination_by L1 _ R1 _ => L1.length + R1.length
/-- One element goes in from the left. -/
theorem merge_one_left (x : α) (R1 R2 : List α) (h1 : ∀ y ∈ R1, le x y = false) (h2 : ∀ y ∈ R2, le x y = true) : List.merge [x] (R1 ++ R2) le = R1 ++ x :: R2 := by
  have a := merge_split (le := le) [] [x] R1 R2 (by simp) (by simpa using h1)
  have b := merge_split (le := le) [x] [] [] R2 (by simpa using h2) (by simp)
  simp only [List.nil_append, List.append_nil, List.nil_merge, List.merge_right] at a b
  rw [a, b]; simp
/-- One element goes in from the right. -/
theorem merge_one_right (y : α) (L1 L2 : List α) (h1 : ∀ x ∈ L1, le x y = true) (h2 : ∀ x ∈ L2, le x y = false) : List.merge (L1 ++ L2) [y] le = L1 ++ y :: L2 := by
  have a := merge_split (le := le) L1 L2 [y] [] (by simp) (by simpa using h2)
  have b := merge_split (le := le) L1 [] [] [y] (by simpa using h1) (by simp)
  simp only [List.nil_append, List.append_nil, List.nil_merge, List.merge_right] at a b
  rw [a, b]; simp
theorem filter_merge (p : α → Bool) (htr : ∀ x y z, le x y = true → le y z = true → le x z = true) (hp : ∀ x y, p x = true → p y = true → le x y = true) :
    ∀ (L R : List α), L.Pairwise (fun a b => le a b = true) → (List.merge L R le).filter p = L.filter p ++ R.filter p
  | [], R, _ => by simp
  | x :: L, [], _ => by simp
  | x :: L, y :: R, h => by
    rw [List.cons_merge_cons]
    split
    · rename_i hxy
      have ih := filter_merge p htr hp L (y :: R) (List.pairwise_cons.1 h).2
      rw [List.filter_cons, ih, List.filter_cons (x := x)]
      split <;> simp
    · rename_i hxy
      have ih := filter_merge p htr hp (x :: L) R h
      rw [List.filter_cons, ih]
      split
      · rename_i hy
        have hn : (x :: L).filter p = [] := by
          rw [List.filter_eq_nil_iff]
          intro z hz hpz
          have hzy := hp z y hpz hy
          rcases List.mem_cons.1 hz with rfl | hz'
          · exact hxy hzy
          · exact hxy (htr _ _ _ ((List.pairwise_cons.1 h).1 z hz') hzy)
        rw [hn, List.filter_cons, if_pos hy]; simp
      · rename_i hy
        rw [List.filter_cons (x := y), if_neg hy]
termination_by L R => L.length + R.length
/-- s is l, sorted; what has one key stands in the old order. -/
structure SortOf {κ : Type} (le : α → α → Bool) (p : κ → α → Bool) (l s : List α) : Prop where
  sorted : s.Pairwise fun a b => le a b = true
  same : ∀ k, s.filter (p k) = l.filter (p k)
theorem SortOf.one {κ : Type} {p : κ → α → Bool} (x : α) : SortOf le p [x] [x] := ⟨by simp, fun _ => rfl⟩
theorem SortOf.nil {κ : Type} {p : κ → α → Bool} : SortOf le p ([] : List α) [] := ⟨by simp, fun _ => rfl⟩
theorem SortOf.merge {κ : Type} {p : κ → α → Bool} (htr : ∀ x y z, le x y = true → le y z = true → le x z = true) (hto : ∀ x y, (le x y || le y x) = true) (hp : ∀ k x y, p k x = true → p k y = true → le x y = true)
    {l1 l2 s1 s2 : List α} (h1 : SortOf le p l1 s1) (h2 : SortOf le p l2 s2) : SortOf le p (l1 ++ l2) (List.merge s1 s2 le) :=
  ⟨List.pairwise_merge htr hto s1 s2 h1.sorted h2.sorted, fun k => by rw [filter_merge (p k) htr (hp k) s1 s2 h1.sorted, h1.same, h2.same, List.filter_append]⟩
/-- A piece of a row that is given by place. -/
def seg (g : Nat → α) (a n : Nat) : List α := (List.range n).map fun i => g (a + i)
theorem seg_length (g : Nat → α) (a n : Nat) : (seg g a n).length = n := by simp [seg]
theorem seg_get (g : Nat → α) (a n : Nat) {i : Nat} (hi : i < n) : (seg g a n)[i]? = some (g (a + i)) := by simp [seg, hi]
theorem seg_congr {g g' : Nat → α} {a a' n : Nat} (h : ∀ i, i < n → g (a + i) = g' (a' + i)) : seg g a n = seg g' a' n := by
  unfold seg
  apply List.map_congr_left
  intro i hi
  exact h i (by simpa using hi)
theorem seg_add (g : Nat → α) (a n m : Nat) : seg g a (n + m) = seg g a n ++ seg g (a + n) m := by
  unfold seg
  rw [List.range_add, List.map_append, List.map_map]
  congr 1
  apply List.map_congr_left
  intro i _
  simp [Nat.add_assoc]
theorem seg_mem {g : Nat → α} {a n : Nat} {x : α} (h : x ∈ seg g a n) : ∃ i, i < n ∧ x = g (a + i) := by
  unfold seg at h
  obtain ⟨i, hi, rfl⟩ := List.mem_map.1 h
  exact ⟨i, by simpa using hi, rfl⟩
theorem seg_sorted {g : Nat → α} {a n : Nat} (h : (seg g a n).Pairwise fun x y => le x y = true) {i j : Nat} (hij : i < j) (hj : j < n) : le (g (a + i)) (g (a + j)) = true := by
  have := List.pairwise_iff_getElem.1 h i j (by simp [seg_length]; omega) (by simp [seg_length]; omega) hij
  simpa [seg] using this
end
end Go.Proofs.Ytgkenknplepmeaa
