/-
  WORDS FOR MEMORY, under no condition on any program: a slice that reads as a list of files; it goes on doing so where nothing below has turned; its parts; an append of such a slice onto a row of the call's own.
-/
import Derived.Test.YtpghfefiifhbiaaGreatDoorPlain
import Derived.Below
import Derived.Laws.OwnMore
import Derived.Deep.AppendLies
import Derived.Deep.Draws
import Derived.Maps.AppendAt
import Derived.RegionTactic
import Derived.OwnWalk
import Derived.WideShapes
namespace Go.Proofs.YtpghfefiifhbiaaGreatDoor
open Go.RowKit

/-- The cells of a list of files: two each. -/
def fcells (l : List F) : List Value := l.flatMap fun f => [.string f.1, .string f.2]
theorem fcells_len (l : List F) : (fcells l).length = l.length * 2 := by
  induction l with
  | nil => rfl
  | cons f l ih => show (fcells l).length + 1 + 1 = (l.length + 1) * 2; omega
theorem fcells_append (a b : List F) : fcells (a ++ b) = fcells a ++ fcells b := by simp [fcells]
theorem fcells_cons (f : F) (l : List F) : fcells (f :: l) = .string f.1 :: .string f.2 :: fcells l := rfl
theorem fcells_take (l : List F) (k : Nat) : (fcells l).take (k * 2) = fcells (l.take k) := by
  induction l generalizing k with
  | nil => simp [fcells]
  | cons f l ih =>
    cases k with
    | zero => simp [fcells]
    | succ k =>
      rw [fcells_cons, show (k + 1) * 2 = k * 2 + 1 + 1 by omega, List.take_succ_cons, List.take_succ_cons, ih, List.take_succ_cons, fcells_cons]
theorem fcells_drop (l : List F) (k : Nat) : (fcells l).drop (k * 2) = fcells (l.drop k) := by
  induction l generalizing k with
  | nil => simp [fcells]
  | cons f l ih =>
    cases k with
    | zero => simp
    | succ k =>
      rw [fcells_cons, show (k + 1) * 2 = k * 2 + 1 + 1 by omega, List.drop_succ_cons, List.drop_succ_cons, ih, List.drop_succ_cons]
theorem fcells_at {l : List F} {i : Nat} {f : F} (h : l[i]? = some f) : (fcells l)[i * 2]? = some (.string f.1) ∧ (fcells l)[i * 2 + 1]? = some (.string f.2) := by
  induction l generalizing i with
  | nil => simp at h
  | cons g l ih =>
    cases i with
    | zero => simp at h; subst h; exact ⟨rfl, rfl⟩
    | succ i =>
      rw [List.getElem?_cons_succ] at h
      rw [fcells_cons, show (i + 1) * 2 = i * 2 + 1 + 1 by omega]
      exact ih h
theorem fcells_one (l : List F) : ∀ u ∈ fcells l, u.oneCell' = true := by
  intro u hu
  simp only [fcells, List.mem_flatMap, List.mem_cons, List.mem_nil_iff, or_false] at hu
  obtain ⟨f, _, rfl | rfl⟩ := hu <;> rfl

/-- The slice (A, n, c) reads as the files l, and lies below block B. -/
def RdF (w : World) (B : Nat) (A : Option Addr) (n c : Nat) (l : List F) : Prop :=
  l.length = n ∧ n ≤ c ∧ c ≤ maxLen ∧ (0 < n → ∃ b off, A = some ⟨b, off, none⟩ ∧ b < B ∧ ∀ j u, (fcells l)[j]? = some u → w.cell? ⟨b, off + j, none⟩ = some u)

section
variable {w w' : World} {B B' n c : Nat} {A : Option Addr} {l : List F}
theorem RdF.len (h : RdF w B A n c l) : l.length = n := h.1
theorem RdF.nil (w : World) (B : Nat) : RdF w B none 0 0 [] := ⟨rfl, Nat.le_refl _, Nat.zero_le _, fun h => absurd h (by omega)⟩
theorem RdF.keep (h : RdF w B A n c l) (hk : ∀ p : Addr, p.block < B → w'.cell? p = w.cell? p) : RdF w' B A n c l :=
  ⟨h.1, h.2.1, h.2.2.1, fun hn => by
    obtain ⟨b, off, e, hb, hc⟩ := h.2.2.2 hn
    exact ⟨b, off, e, hb, fun j u hu => (hk ⟨b, off + j, none⟩ hb).trans (hc j u hu)⟩⟩
theorem RdF.more (h : RdF w B A n c l) (hB : B ≤ B') : RdF w B' A n c l :=
  ⟨h.1, h.2.1, h.2.2.1, fun hn => by
    obtain ⟨b, off, e, hb, hc⟩ := h.2.2.2 hn
    exact ⟨b, off, e, by omega, hc⟩⟩
theorem RdF.below (h : RdF w B A n c l) (hb : Below B w w') : RdF w' B A n c l := h.keep fun _ hp => hb.cell hp
theorem RdF.belowS (h : RdF w w.heap.size A n c l) (hb : Below w.heap.size w w') : RdF w' w'.heap.size A n c l := (h.below hb).more hb.size
theorem RdF.drewN (h : RdF w B A n c l) (k : Nat) : RdF (w.drewN k) B A n c l := h
theorem RdF.alloc (h : RdF w B A n c l) (hB : B ≤ w.heap.size) (o : Obj) : RdF (w.alloc o) B A n c l := h.keep fun p hp => World.cell?_alloc_lt w o p (by omega)
theorem RdF.at_ (h : RdF w B A n c l) {i : Nat} {f : F} (hi : l[i]? = some f) :
    ∃ b off, A = some ⟨b, off, none⟩ ∧ b < B ∧ w.cell? ⟨b, off + i * 2, none⟩ = some (.string f.1) ∧ w.cell? ⟨b, off + i * 2 + 1, none⟩ = some (.string f.2) := by
  have hl : i < l.length := (List.getElem?_eq_some_iff.1 hi).1
  obtain ⟨b, off, e, hb, hc⟩ := h.2.2.2 (by have := h.1; omega)
  exact ⟨b, off, e, hb, hc _ _ (fcells_at hi).1, by rw [Nat.add_assoc]; exact hc _ _ (fcells_at hi).2⟩
/-- The address, and every cell at it. -/
theorem RdF.cells (h : RdF w B A n c l) (hn : 0 < n) :
    ∃ b off, A = some ⟨b, off, none⟩ ∧ b < B ∧ ∀ i f, l[i]? = some f → w.cell? ⟨b, off + i * 2, none⟩ = some (.string f.1) ∧ w.cell? ⟨b, off + i * 2 + 1, none⟩ = some (.string f.2) := by
  obtain ⟨b, off, e, hb, hc⟩ := h.2.2.2 hn
  exact ⟨b, off, e, hb, fun i f hi => ⟨hc _ _ (fcells_at hi).1, by rw [Nat.add_assoc]; exact hc _ _ (fcells_at hi).2⟩⟩
theorem RdF.take (h : RdF w B A n c l) {k : Nat} (hk : k ≤ n) : RdF w B A k c (l.take k) := by
  refine ⟨by rw [List.length_take, h.1]; omega, by have := h.2.1; omega, h.2.2.1, fun hn => ?_⟩
  obtain ⟨b, off, e, hb, hc⟩ := h.2.2.2 (by omega)
  refine ⟨b, off, e, hb, fun j u hu => hc j u ?_⟩
  rw [← fcells_take, List.getElem?_take] at hu
  split at hu
  · exact hu
  · cases hu
theorem RdF.drop (h : RdF w B A n c l) {k : Nat} (hk : k ≤ n) : RdF w B (if c = k then A else A.map (·.add (k * 2))) (n - k) (c - k) (l.drop k) := by
  refine ⟨by rw [List.length_drop, h.1], by have := h.2.1; omega, by have := h.2.2.1; omega, fun hn => ?_⟩
  obtain ⟨b, off, e, hb, hc⟩ := h.2.2.2 (by omega)
  have hc2 := h.2.1
  rw [if_neg (by omega)]
  refine ⟨b, off + k * 2, by rw [e]; exact congrArg some (Go.WideShapes.add_plain b off (k * 2)), hb, fun j u hu => ?_⟩
  rw [← fcells_drop, List.getElem?_drop] at hu
  rw [Nat.add_assoc]
  exact hc _ u hu
theorem RdF.of_own {base : Nat} {e : TypeId} {v : Value} (h : w.ownsRow base e 2 v n (fcells l)) : ∃ A c, v = .slice A n c ∧ RdF w w.heap.size A n c l := by
  have hl : l.length = n := by have := h.1; rw [fcells_len] at this; omega
  rcases h.2 with ⟨rfl, rfl⟩ | ⟨g, cap, cur, rfl, hb, hh, hn, hm, hs, ht⟩
  · obtain rfl : l = [] := List.eq_nil_of_length_eq_zero hl
    exact ⟨none, 0, rfl, RdF.nil _ _⟩
  · refine ⟨_, cap, rfl, hl, hn, hm, fun _ => ⟨g, 0, rfl, (Array.getElem?_eq_some_iff.1 hh).1, fun j u hu => ?_⟩⟩
    have := h.cells (g := g) rfl j u hu
    rwa [Go.WideShapes.add_plain] at this
end

section
variable {P : Program} (w : World)
/-- append(v, s...), v a row of the call's own, s a slice that reads as files (nil, empty or not). -/
theorem run_append_files (base : Nat) (t ty e : TypeId) (i : TypeInfo) (z : Value) (bytes : Nat) (ht : P.underlying t = some (.slice e)) (hi : P.info? e = some i) (hz : i.zero = some z)
    (hsize : i.size = 2) (hby : i.bytes = bytes) (hzs : z.cells.size = 2)
    (v : Value) (n : Nat) (l : List F) (hown : w.ownsRow base e 2 v n (fcells l))
    (B : Nat) (A : Option Addr) (m c : Nat) (r : List F) (hr : RdF w B A m c r)
    (h63 : n + m ≤ maxLen) (hbytes : (n + m) * bytes ≤ 140737488355328) (hbase : base ≤ w.heap.size) :
    ∃ v' w', (Builtin.append_ #[t, t] ty #[v, .slice A m c]).run P w = .ok v' w' ∧ w'.ownsRow base e 2 v' (n + m) (fcells (l ++ r)) ∧ w.grownBy w' v.ownBlock := by
  rcases A with _ | ad
  · have hm : m = 0 := by
      rcases Nat.eq_zero_or_pos m with h0 | h0
      · exact h0
      · obtain ⟨b, off, h, _⟩ := hr.2.2.2 h0
        cases h
    subst hm
    have hn : r = [] := List.eq_nil_of_length_eq_zero hr.1
    subst hn
    refine ⟨v, w, ?_, by simpa using hown, World.grownBy.refl w _⟩
    rcases hown.2 with ⟨rfl, rfl⟩ | ⟨g, cap, cur, rfl, _, _, hnc, _⟩
    · simp [Builtin.append_, run_underlying ht, sizeOf, typeInfo, hi, Builtin.lenOf, Builtin.firstCells]
    · simp [Builtin.append_, run_underlying ht, sizeOf, typeInfo, hi, Builtin.lenOf, Builtin.firstCells, hnc, storeCells]
  · have hcells : ∀ j u, (fcells r)[j]? = some u → w.cell? (ad.add j) = some u := by
      intro j u hu
      rcases Nat.eq_zero_or_pos m with h0 | h0
      · have hn : r = [] := List.eq_nil_of_length_eq_zero (by rw [hr.1, h0])
        subst hn
        simp [fcells] at hu
      · obtain ⟨b, off, h, _, hc⟩ := hr.2.2.2 h0
        injection h with h
        subst h
        rw [Go.WideShapes.add_plain]
        exact hc j u hu
    obtain ⟨v', w', hrun, h2, h3, _, _⟩ := run_append_own_at (P := P) w base t ty e i z 2 bytes ht hi hz hsize hby hzs (by omega) v n (fcells l) hown ad m c (fcells r) (by rw [fcells_len, hr.1]) hcells (fcells_one r) h63 hbytes hbase
    exact ⟨v', w', hrun, by rw [fcells_append]; exact h2, h3⟩

theorem wp_append_files {o : Oper} {a : Act} {K : Act → World → Prop} {Q : Exit → Act → World → Prop} (s x : Operand) (t : TypeId)
    (ho : o.op = .call { callee := .builtin .append, args := #[s, x], argTypes := #[t, t] })
    (base : Nat) (e : TypeId) (i : TypeInfo) (z : Value) (bytes : Nat) (ht : P.underlying t = some (.slice e)) (hi : P.info? e = some i) (hz : i.zero = some z)
    (hsize : i.size = 2) (hby : i.bytes = bytes) (hzs : z.cells.size = 2)
    (v : Value) (n : Nat) (l : List F) (hs : a.eval s = v) (hown : w.ownsRow base e 2 v n (fcells l))
    (B : Nat) (A : Option Addr) (m c : Nat) (r : List F) (hx : a.eval x = .slice A m c) (hr : RdF w B A m c r)
    (h63 : n + m ≤ maxLen) (hbytes : (n + m) * bytes ≤ 140737488355328) (hbase : base ≤ w.heap.size)
    (h : ∀ v' w', w'.ownsRow base e 2 v' (n + m) (fcells (l ++ r)) → w.grownBy w' v.ownBlock → K (a.put o.dst v') w') : o.wp P a w K Q := by
  obtain ⟨v', w', hrun, h2, h3⟩ := run_append_files (P := P) w base t o.type e i z bytes ht hi hz hsize hby hzs v n l hown B A m c r hr h63 hbytes hbase
  unfold Oper.wp execOp
  simp only [ho, resolve, invoke, builtin, Sem.run_bind, Sem.run_pure, Result.andThen_ok, List.map_toArray, List.map_cons, List.map_nil, hs, hx, hrun]
  exact h v' w' h2 h3

theorem wpList_append_files {ops : Array Oper} {rest : List Oper} {o : Oper} {a : Act} {Q : Exit → Act → World → Prop} (hgd : o.guard = none) (s x : Operand) (t : TypeId)
    (ho : o.op = .call { callee := .builtin .append, args := #[s, x], argTypes := #[t, t] })
    (base : Nat) (e : TypeId) (i : TypeInfo) (z : Value) (bytes : Nat) (ht : P.underlying t = some (.slice e)) (hi : P.info? e = some i) (hz : i.zero = some z)
    (hsize : i.size = 2) (hby : i.bytes = bytes) (hzs : z.cells.size = 2)
    (v : Value) (n : Nat) (l : List F) (hs : a.eval s = v) (hown : w.ownsRow base e 2 v n (fcells l))
    (B : Nat) (A : Option Addr) (m c : Nat) (r : List F) (hx : a.eval x = .slice A m c) (hr : RdF w B A m c r)
    (h63 : n + m ≤ maxLen) (hbytes : (n + m) * bytes ≤ 140737488355328) (hbase : base ≤ w.heap.size)
    (h : ∀ v' w', w'.ownsRow base e 2 v' (n + m) (fcells (l ++ r)) → w.grownBy w' v.ownBlock → wpList P ops Q rest (a.put o.dst v') w') : wpList P ops Q (o :: rest) a w :=
  wpList_plain hgd fun _ hK => wp_append_files w s x t ho base e i z bytes ht hi hz hsize hby hzs v n l hs hown B A m c r hx hr h63 hbytes hbase fun v' w' h2 h3 => hK _ _ (h v' w' h2 h3)
end
end Go.Proofs.YtpghfefiifhbiaaGreatDoor
