/-
  WALK: row.Apply: what it gives, for lists of changes up to a hundred thousand.
-/
import Derived.Test.YtdkjnclbgkcblaaCat
import Derived.Test.YtdkjnclbgkcblaaSta
namespace Go.Proofs.Ytdkjnclbgkcblaa
open Go.RowKit Go.Sort Go.Shelf

set_option maxHeartbeats 1000000 in
set_option maxRecDepth 100000 in
theorem insertion_none (A : Option Addr) (c : Nat) (w : World) : Calls Try.prog 110 #[.slice A 0 c, .int .i64 0, .int .i64 0, .func (.func 73) #[] #[]] w fun e w' => e = .returned (.tuple #[]) ∧ w' = w := by
  go_enter Try.func110, Try.ntmps110
  go_wp2
  refine wp_loop_rounds 1 ?_
  rw [rounds_succ]
  go_wp2
  go_end0
  exact ⟨rfl, rfl⟩
set_option maxHeartbeats 1000000 in
set_option maxRecDepth 100000 in
theorem stable_none (A : Option Addr) (c : Nat) (w : World) : Calls Try.prog 93 #[.slice A 0 c, .int .i64 0, .func (.func 73) #[] #[]] w fun e w' => e = .returned (.tuple #[]) ∧ w' = w := by
  go_enter Try.func93, Try.ntmps93
  go_wp2
  refine wp_loop_rounds 1 ?_
  rw [rounds_succ]
  go_wp2_with fail
  refine (insertion_none _ _ _).mono ?_
  rintro e w1 ⟨rfl, rfl⟩
  go_wp2
  refine wp_loop_rounds 1 ?_
  rw [rounds_succ]
  go_wp2
  go_end0
  exact ⟨rfl, rfl⟩
set_option maxHeartbeats 1000000 in
set_option maxRecDepth 100000 in
theorem sortStable_none (A : Option Addr) (c : Nat) (w : World) : Calls Try.prog 72 #[.slice A 0 c, .func (.func 73) #[] #[]] w fun e w' => e = .returned (.tuple #[]) ∧ w' = w := by
  go_enter Try.func72, Try.ntmps72
  go_wp2_with fail
  refine (stable_none _ _ _).mono ?_
  rintro e w1 ⟨rfl, rfl⟩
  go_wp2
  go_end0
  exact ⟨rfl, rfl⟩
theorem lget {l : List Ch} {i : Nat} (hi : i < l.length) : l[i]? = some l.toArray[i]! := by
  rw [List.getElem?_eq_getElem hi]
  simp [hi]
/-- A row of the call's own holds its changes. -/
theorem holds_of_own {w : World} {base g n cap : Nat} {e : TypeId} {l : List Ch} (h : w.ownsRow base e 3 (.slice (some ⟨g, 0, none⟩) n cap) n (ccells l)) : HoldsK encC 3 w g 0 l.toArray := by
  have hl : l.length = n := by have := h.1; rw [ccells_len] at this; omega
  have hfz : ∀ j, w.frozen? ⟨g, j, none⟩ = false := fun j => by
    rcases h.2 with ⟨e1, _⟩ | ⟨g', cap', cur, e1, hb, hh, _⟩
    · cases e1
    · injection e1 with e1 _ _
      injection e1 with e1
      injection e1 with e1
      subst e1
      simp [World.frozen?, hh]
  have hc := fun j u hu => h.cells (g := g) rfl j u hu
  simp only [Go.WideShapes.add_plain] at hc
  intro j hj
  rw [size_flatK] at hj
  refine ⟨?_, hfz _⟩
  rw [get_flatK _ _ _ _ hj]
  have hi : j / 3 < l.length := by simp at hj; omega
  obtain ⟨h0, h1, h2⟩ := ccells_at (lget hi)
  have e : j = j / 3 * 3 ∧ j % 3 = 0 ∨ j = j / 3 * 3 + 1 ∧ j % 3 = 1 ∨ j = j / 3 * 3 + 2 ∧ j % 3 = 2 := by omega
  rcases e with ⟨e, e'⟩ | ⟨e, e'⟩ | ⟨e, e'⟩
  · rw [e']; have := hc _ _ h0; rw [← e] at this; exact this
  · rw [e']; have := hc _ _ h1; rw [← e] at this; exact this
  · rw [e']; have := hc _ _ h2; rw [← e] at this; exact this
theorem SoW.below {w : World} {blk off q B : Nat} {d : Array Ch} {os : Array Obj} (hB : B ≤ blk) (hb : blk < w.heap.size) : Below B w (SoW w blk off q d os) := by
  refine ⟨rfl, rfl, rfl, size_sortWorldK_c encC 3 w blk off q d os, fun k hk => ?_⟩
  show ((putRowK encC 3 (Sort.ahead w q) blk off d).heap ++ os)[k]? = w.heap[k]?
  have hs : (putRowK encC 3 (Sort.ahead w q) blk off d).heap.size = w.heap.size := size_putRowK encC 3 (Sort.ahead w q) blk off d
  rw [Array.getElem?_append_left (by rw [hs]; omega)]
  show (w.heap.modify blk _)[k]? = w.heap[k]?
  rw [Array.getElem?_modify, if_neg (by omega)]
theorem sg_all (d : Array Ch) : sg d 0 d.size = d.toList := by
  apply List.ext_getElem?
  intro i
  rcases Nat.lt_or_ge i d.size with h | h
  · rw [sg, seg_get _ _ _ h, Nat.zero_add, Array.getElem?_toList, Array.getElem?_eq_getElem h, getElem!_pos d i h]
  · rw [List.getElem?_eq_none (by rw [sg_len]; exact h), List.getElem?_eq_none (by simpa using h)]
/-- One round of the last loop, in plain lists. -/
theorem lasts_drop {s : List Ch} {k : Nat} {c : Ch} (h : s[k]? = some c) : lasts (s.drop k) = if (s[k + 1]?.map (·.key) != some c.key) && !c.gone then c :: lasts (s.drop (k + 1)) else lasts (s.drop (k + 1)) := by
  have hk : k < s.length := (List.getElem?_eq_some_iff.1 h).1
  have e : s.drop k = c :: s.drop (k + 1) := by
    rw [List.drop_eq_getElem_cons hk]
    rw [List.getElem?_eq_getElem hk] at h
    injection h with h
    rw [h]
  rw [e, lasts, List.head?_drop]
end Go.Proofs.Ytdkjnclbgkcblaa
