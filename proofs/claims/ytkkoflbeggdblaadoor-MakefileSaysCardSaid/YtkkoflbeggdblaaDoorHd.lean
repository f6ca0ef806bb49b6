/-
  WORDS FOR MEMORY: the frame of the document's functions that take a description and give one.
-/
import Derived.Test.YtkkoflbeggdblaaDoorSameMk
import Derived.Deep.RegionHeld3
import Derived.Deep.AppendLies
import Derived.Test.YtkkoflbeggdblaaDoorRefFault
import Derived.Test.YtkkoflbeggdblaaDoorExpanded
namespace Go.Proofs.YtkkoflbeggdblaaDoor
open Go.RowKit

/-- The slice (A, m, c) reads as cells, 'size' for each element. -/
def RdX (w : World) (size : Nat) (A : Option Addr) (m : Nat) (xs : List Value) : Prop :=
  xs.length = m * size ∧ (∀ u ∈ xs, u.oneCell' = true) ∧ (0 < m → ∃ b off, A = some ⟨b, off, none⟩ ∧ ∀ j u, xs[j]? = some u → w.cell? ⟨b, off + j, none⟩ = some u)
theorem RdS.x {w : World} {B : Nat} {A : Option Addr} {n c : Nat} {l : List ByteArray} (h : RdS w B A n c l) : RdX w 1 A n (tcells l) :=
  ⟨by rw [tcells, List.length_map, h.1]; omega, tcells_one l, fun hn => by
    obtain ⟨b, off, e, _, hc⟩ := h.2.2.2 hn
    refine ⟨b, off, e, fun j u hu => ?_⟩
    rw [tcells, List.getElem?_map, Option.map_eq_some_iff] at hu
    obtain ⟨s, hs, rfl⟩ := hu
    exact hc j s hs⟩
theorem RdF.x {w : World} {B : Nat} {A : Option Addr} {n c : Nat} {l : List F} (h : RdF w B A n c l) : RdX w 2 A n (fcells l) :=
  ⟨by rw [fcells_len, h.1], fcells_one l, fun hn => by
    obtain ⟨b, off, e, _, hc⟩ := h.2.2.2 hn
    exact ⟨b, off, e, hc⟩⟩
theorem RdR.x {w : World} {B : Nat} {A : Option Addr} {n c : Nat} {R : List Row3} (h : RdR w B A n c R) (h1 : ∀ u ∈ rcells R, u.oneCell' = true) : RdX w 3 A n (rcells R) :=
  ⟨by rw [rcells_len, h.1], h1, fun hn => by
    obtain ⟨b, off, e, _, hc⟩ := h.2.2.2 hn
    exact ⟨b, off, e, hc⟩⟩
theorem RdX.new (w : World) (size : Nat) (cs : Array Value) (t : TypeId) (hs : cs.size = size) (h1 : ∀ u ∈ cs.toList, u.oneCell' = true) : RdX (w.alloc (.cells cs t)) size (some ⟨w.heap.size, 0, none⟩) 1 cs.toList :=
  ⟨by simp [hs], h1, fun _ => ⟨w.heap.size, 0, rfl, fun j u hu => by
    have := cells_new w cs t j u hu
    rwa [Go.WideShapes.add_plain] at this⟩⟩
theorem RdX.keep {w w' : World} {size m : Nat} {A : Option Addr} {xs : List Value} (h : RdX w size A m xs) (hk : ∀ b, (∃ off, A = some ⟨b, off, none⟩) → w'.heap[b]? = w.heap[b]?) : RdX w' size A m xs :=
  ⟨h.1, h.2.1, fun hm => by
    obtain ⟨b, off, e, hc⟩ := h.2.2 hm
    exact ⟨b, off, e, fun j u hu => (World.cell?_of_block (w := w) (hk b ⟨off, e⟩)).trans (hc j u hu)⟩⟩
section
variable {P : Program} (w : World)
theorem run_append_rd (base : Nat) (t ty e : TypeId) (i : TypeInfo) (z : Value) (size bytes : Nat) (ht : P.underlying t = some (.slice e)) (hi : P.info? e = some i) (hz : i.zero = some z)
    (hsize : i.size = size) (hby : i.bytes = bytes) (hzs : z.cells.size = size) (hsz : 0 < size)
    (v : Value) (n : Nat) (ys : List Value) (hown : w.ownsRow base e size v n ys)
    (A : Option Addr) (m c : Nat) (xs : List Value) (hr : RdX w size A m xs)
    (h63 : n + m ≤ maxLen) (hbytes : (n + m) * bytes ≤ 140737488355328) (hbase : base ≤ w.heap.size) :
    ∃ v' w', (Builtin.append_ #[t, t] ty #[v, .slice A m c]).run P w = .ok v' w' ∧ w'.ownsRow base e size v' (n + m) (ys ++ xs) ∧ w.grownBy w' v.ownBlock ∧ (v'.ownBlock = v.ownBlock ∨ v'.ownBlock = some w.heap.size) := by
  rcases A with _ | ad
  · have hm : m = 0 := by
      rcases Nat.eq_zero_or_pos m with h0 | h0
      · exact h0
      · obtain ⟨b, off, h, _⟩ := hr.2.2 h0
        cases h
    subst hm
    have hn : xs = [] := List.eq_nil_of_length_eq_zero (by rw [hr.1]; omega)
    subst hn
    refine ⟨v, w, ?_, by simpa using hown, World.grownBy.refl w _, .inl rfl⟩
    rcases hown.2 with ⟨rfl, rfl⟩ | ⟨g, cap, cur, rfl, _, _, hnc, _⟩
    · simp [Builtin.append_, run_underlying ht, sizeOf, typeInfo, hi, Builtin.lenOf, Builtin.firstCells]
    · simp [Builtin.append_, run_underlying ht, sizeOf, typeInfo, hi, Builtin.lenOf, Builtin.firstCells, hnc, storeCells]
  · have hcells : ∀ j u, xs[j]? = some u → w.cell? (ad.add j) = some u := by
      intro j u hu
      rcases Nat.eq_zero_or_pos m with h0 | h0
      · have hn : xs = [] := List.eq_nil_of_length_eq_zero (by rw [hr.1, h0]; omega)
        subst hn
        simp at hu
      · obtain ⟨b, off, h, hc⟩ := hr.2.2 h0
        injection h with h
        subst h
        rw [Go.WideShapes.add_plain]
        exact hc j u hu
    obtain ⟨v', w', hrun, h2, h3, _, h5⟩ := run_append_own_at (P := P) w base t ty e i z size bytes ht hi hz hsize hby hzs hsz v n ys hown ad m c xs hr.1 hcells hr.2.1 h63 hbytes hbase
    exact ⟨v', w', hrun, h2, h3, h5⟩
theorem wp_append_rd {o : Oper} {a : Act} {K : Act → World → Prop} {Q : Exit → Act → World → Prop} (s x : Operand) (t : TypeId)
    (ho : o.op = .call { callee := .builtin .append, args := #[s, x], argTypes := #[t, t] })
    (base : Nat) (e : TypeId) (i : TypeInfo) (z : Value) (size bytes : Nat) (ht : P.underlying t = some (.slice e)) (hi : P.info? e = some i) (hz : i.zero = some z)
    (hsize : i.size = size) (hby : i.bytes = bytes) (hzs : z.cells.size = size) (hsz : 0 < size)
    (v : Value) (n : Nat) (ys : List Value) (hs : a.eval s = v) (hown : w.ownsRow base e size v n ys)
    (A : Option Addr) (m c : Nat) (xs : List Value) (hx : a.eval x = .slice A m c) (hr : RdX w size A m xs)
    (h63 : n + m ≤ maxLen) (hbytes : (n + m) * bytes ≤ 140737488355328) (hbase : base ≤ w.heap.size)
    (h : ∀ v' w', w'.ownsRow base e size v' (n + m) (ys ++ xs) → w.grownBy w' v.ownBlock → (v'.ownBlock = v.ownBlock ∨ v'.ownBlock = some w.heap.size) → K (a.put o.dst v') w') : o.wp P a w K Q := by
  obtain ⟨v', w', hrun, h2, h3, h4⟩ := run_append_rd (P := P) w base t o.type e i z size bytes ht hi hz hsize hby hzs hsz v n ys hown A m c xs hr h63 hbytes hbase
  unfold Oper.wp execOp
  simp only [ho, resolve, invoke, builtin, Sem.run_bind, Sem.run_pure, Result.andThen_ok, List.map_toArray, List.map_cons, List.map_nil, hs, hx, hrun]
  exact h v' w' h2 h3 h4
theorem wpList_append_rd {ops : Array Oper} {rest : List Oper} {o : Oper} {a : Act} {Q : Exit → Act → World → Prop} (hgd : o.guard = none) (s x : Operand) (t : TypeId)
    (ho : o.op = .call { callee := .builtin .append, args := #[s, x], argTypes := #[t, t] })
    (base : Nat) (e : TypeId) (i : TypeInfo) (z : Value) (size bytes : Nat) (ht : P.underlying t = some (.slice e)) (hi : P.info? e = some i) (hz : i.zero = some z)
    (hsize : i.size = size) (hby : i.bytes = bytes) (hzs : z.cells.size = size) (hsz : 0 < size)
    (v : Value) (n : Nat) (ys : List Value) (hs : a.eval s = v) (hown : w.ownsRow base e size v n ys)
    (A : Option Addr) (m c : Nat) (xs : List Value) (hx : a.eval x = .slice A m c) (hr : RdX w size A m xs)
    (h63 : n + m ≤ maxLen) (hbytes : (n + m) * bytes ≤ 140737488355328) (hbase : base ≤ w.heap.size)
    (h : ∀ v' w', w'.ownsRow base e size v' (n + m) (ys ++ xs) → w.grownBy w' v.ownBlock → (v'.ownBlock = v.ownBlock ∨ v'.ownBlock = some w.heap.size) → wpList P ops Q rest (a.put o.dst v') w') : wpList P ops Q (o :: rest) a w :=
  wpList_plain hgd fun _ hK => wp_append_rd w s x t ho base e i z size bytes ht hi hz hsize hby hzs hsz v n ys hs hown A m c xs hx hr h63 hbytes hbase fun v' w' h2 h3 h4 => hK _ _ (h v' w' h2 h3 h4)
theorem step_append_rd {ops : Array Oper} {o : Oper} {a : Act} {K : Act → World → Prop} {Q : Exit → Act → World → Prop} {E : Prop} (hgd : o.guard = none) (s x : Operand) (t : TypeId)
    (ho : o.op = .call { callee := .builtin .append, args := #[s, x], argTypes := #[t, t] })
    (base : Nat) (e : TypeId) (i : TypeInfo) (z : Value) (size bytes : Nat) (ht : P.underlying t = some (.slice e)) (hi : P.info? e = some i) (hz : i.zero = some z)
    (hsize : i.size = size) (hby : i.bytes = bytes) (hzs : z.cells.size = size) (hsz : 0 < size)
    (v : Value) (n : Nat) (ys : List Value) (hs : a.eval s = v) (hown : w.ownsRow base e size v n ys)
    (A : Option Addr) (m c : Nat) (xs : List Value) (hx : a.eval x = .slice A m c) (hr : RdX w size A m xs)
    (h63 : n + m ≤ maxLen) (hbytes : (n + m) * bytes ≤ 140737488355328) (hbase : base ≤ w.heap.size)
    (h : ∀ v' w', w'.ownsRow base e size v' (n + m) (ys ++ xs) → w.grownBy w' v.ownBlock → (v'.ownBlock = v.ownBlock ∨ v'.ownBlock = some w.heap.size) → K (a.put o.dst v') w') :
    if Region.wanted o (yielded ops a.tmps) = true then Oper.wp P o a w K Q else E := by
  have hw : Region.wanted o (yielded ops a.tmps) = true := by simp [Region.wanted, hgd]
  rw [if_pos hw]
  exact wp_append_rd w s x t ho base e i z size bytes ht hi hz hsize hby hzs hsz v n ys hs hown A m c xs hx hr h63 hbytes hbase h
end
/-- Every cell of a rule that is read is one cell. -/
theorem MkRd.one {w : World} {m : Mk} {vv vr vp : Value} {R : List Row3} (h : MkRd w m vv vr vp R) : ∀ u ∈ rcells R, u.oneCell' = true := by
  intro u hu
  obtain ⟨j, hj, e⟩ := List.mem_iff_getElem.1 hu
  have hlen := rcells_len R
  have hi : j / 3 < R.length := by omega
  obtain ⟨x, hx⟩ : ∃ x, R[j / 3]? = some x := ⟨_, List.getElem?_eq_getElem hi⟩
  obtain ⟨y, hy⟩ : ∃ y, m.rules[j / 3]? = some y := ⟨_, List.getElem?_eq_getElem (by rw [← h.len]; exact hi)⟩
  obtain ⟨⟨_, _, e1, _⟩, ⟨_, _, e2, _⟩, ⟨_, _, e3, _⟩⟩ := h.each _ x y hx hy
  obtain ⟨h1, h2, h3⟩ := rcells_at hx
  have hu' : (rcells R)[j]? = some u := by rw [List.getElem?_eq_getElem hj, e]
  have h5 : j = j / 3 * 3 ∨ j = j / 3 * 3 + 1 ∨ j = j / 3 * 3 + 2 := by omega
  rcases h5 with h5 | h5 | h5
  · rw [h5, h1] at hu'; injection hu' with hu'; rw [← hu', e1]; rfl
  · rw [h5, h2] at hu'; injection hu' with hu'; rw [← hu', e2]; rfl
  · rw [h5, h3] at hu'; injection hu' with hu'; rw [← hu', e3]; rfl
end Go.Proofs.YtkkoflbeggdblaaDoor
namespace Go.Proofs.YtkkoflbeggdblaaDoor
open Go.RowKit

/-- It reads as m, whatever becomes of the blocks in X. -/
def MkFar (w : World) (X : Nat → Prop) (m : Mk) (vv vr vp : Value) (R : List Row3) : Prop := ∀ W : World, w.heap.size ≤ W.heap.size → (∀ b, b < w.heap.size → ¬ X b → W.heap[b]? = w.heap[b]?) → MkRd W m vv vr vp R
section
variable {w w' W : World} {X : Nat → Prop} {m : Mk} {vv vr vp : Value} {R : List Row3}
theorem MkFar.rd (h : MkFar w X m vv vr vp R) : MkRd w m vv vr vp R := h w (Nat.le_refl _) (fun _ _ _ => rfl)
theorem MkFar.below (h : MkFar w X m vv vr vp R) (hb : Below w.heap.size w w') : MkFar w' X m vv vr vp R := fun W hs hk =>
  h W (Nat.le_trans hb.size hs) (fun b hlt hx => (hk b (Nat.lt_of_lt_of_le hlt hb.size) hx).trans (hb.block b hlt))
theorem RdF.heap {A : Option Addr} {n c : Nat} {l : List F} (h : RdF w w.heap.size A n c l) (hs : w.heap.size ≤ W.heap.size) (hk : ∀ b, b < w.heap.size → W.heap[b]? = w.heap[b]?) : RdF W W.heap.size A n c l :=
  (h.keep (fun p hp => World.cell?_of_block (hk _ hp))).more hs
theorem RdS.heap {A : Option Addr} {n c : Nat} {l : List ByteArray} (h : RdS w w.heap.size A n c l) (hs : w.heap.size ≤ W.heap.size) (hk : ∀ b, b < w.heap.size → W.heap[b]? = w.heap[b]?) : RdS W W.heap.size A n c l :=
  (h.keep (fun p hp => World.cell?_of_block (hk _ hp))).more hs
theorem RdR.heap {A : Option Addr} {n c : Nat} {R : List Row3} (h : RdR w w.heap.size A n c R) (hs : w.heap.size ≤ W.heap.size) (hk : ∀ b, b < w.heap.size → W.heap[b]? = w.heap[b]?) : RdR W W.heap.size A n c R :=
  ⟨h.1, h.2.1, h.2.2.1, fun hn => by
    obtain ⟨b, off, e, hbb, hc⟩ := h.2.2.2 hn
    exact ⟨b, off, e, Nat.lt_of_lt_of_le hbb hs, fun j u hu => (World.cell?_of_block (hk b hbb)).trans (hc j u hu)⟩⟩
theorem Sl.heap {v : Value} {l : List ByteArray} (h : Sl w v l) (hs : w.heap.size ≤ W.heap.size) (hk : ∀ b, b < w.heap.size → W.heap[b]? = w.heap[b]?) : Sl W v l := by
  obtain ⟨A, c, e, hr⟩ := h
  exact ⟨A, c, e, hr.heap hs hk⟩
theorem MkRd.far (h : MkRd w m vv vr vp R) : MkFar w (fun _ => False) m vv vr vp R := fun W hs hk => by
  have hk' : ∀ b, b < w.heap.size → W.heap[b]? = w.heap[b]? := fun b hb => hk b hb (fun h => h)
  obtain ⟨A, c, e, hr⟩ := h.vars
  obtain ⟨A2, c2, e2, hr2⟩ := h.rules
  exact ⟨⟨A, c, e, hr.heap hs hk'⟩, ⟨A2, c2, e2, hr2.heap hs hk'⟩, h.len, fun i x u hx hu => by obtain ⟨a, b, c⟩ := h.each i x u hx hu; exact ⟨a.heap hs hk', b.heap hs hk', c.heap hs hk'⟩, h.phony.heap hs hk'⟩
theorem own_far {B sz n : Nat} {e : TypeId} {v : Value} {xs : List Value} (h : w.ownsRow B e sz v n xs) (hk : ∀ b, B ≤ b → b < w.heap.size → W.heap[b]? = w.heap[b]?) : W.ownsRow B e sz v n xs := by
  rcases h with ⟨hl, h | ⟨g, cap, cur, e1, hb, hh, rest⟩⟩
  · exact ⟨hl, .inl h⟩
  · exact ⟨hl, .inr ⟨g, cap, cur, e1, hb, (hk g hb (Array.getElem?_eq_some_iff.1 hh).1).trans hh, rest⟩⟩
end
/-- A call has made one description out of another. -/
def LnPost (r : Nat × Mk) (m : Mk) (vv vr vp : Value) (R : List Row3) (w : World) (e : Ending) (w' : World) : Prop :=
  ∃ vv' vr' vp' R', e = .returned (.tuple #[.agg #[vv', vr', vp'], .int .i64 r.1]) ∧ Below w.heap.size w w' ∧ ∀ X : Nat → Prop, (∀ b, X b → b < w.heap.size) → MkFar w X m vv vr vp R → MkFar w' X r.2 vv' vr' vp' R'
theorem LnPost.same {r : Nat × Mk} {m : Mk} {vv vr vp : Value} {R : List Row3} {w w' : World} {k : Nat} (hr : r = (k, m)) (hb : Below w.heap.size w w') : LnPost r m vv vr vp R w (.returned (.tuple #[.agg #[vv, vr, vp], .int .i64 k])) w' :=
  ⟨vv, vr, vp, R, by rw [hr], hb, fun X _ h => by rw [hr]; exact h.below hb⟩
theorem MkRd.rule {W : World} {m : Mk} {vv vr vp v' v3 v4 : Value} {R : List Row3} {T N : List ByteArray} {B B3 B4 : Nat} (h : MkRd W m vv vr vp R) (ho : W.ownsRow B 89 3 v' (R.length + 1) (rcells R ++ [v3, v4, .slice none 0 0])) (h3 : Own1 W B3 v3 T) (h4 : Own1 W B4 v4 N) :
    MkRd W { m with rules := m.rules ++ [(T, N, [])] } vv v' vp (R ++ [(v3, v4, .slice none 0 0)]) := by
  have e : rcells (R ++ [(v3, v4, .slice none 0 0)]) = rcells R ++ [v3, v4, .slice none 0 0] := by rw [rcells_append]; rfl
  refine ⟨h.vars, RdR.of_own (by rw [e, List.length_append]; exact ho), by simp [h.len], fun i x u hx hu => ?_, h.phony⟩
  rcases Nat.lt_or_ge i R.length with hi | hi
  · rw [List.getElem?_append_left hi] at hx
    rw [List.getElem?_append_left (by rw [← h.len]; exact hi)] at hu
    exact h.each i x u hx hu
  · rw [List.getElem?_append_right hi] at hx
    rw [List.getElem?_append_right (by rw [← h.len]; exact hi)] at hu
    rw [← h.len] at hu
    cases hk : i - R.length with
    | zero =>
      rw [hk] at hx hu
      simp at hx hu
      subst hx
      subst hu
      exact ⟨Sl.own h3, Sl.own h4, ⟨none, 0, rfl, RdS.nil _ _⟩⟩
    | succ k => rw [hk] at hx; simp at hx
/-- One rule more, out of rows that the call has laid itself. -/
theorem LnPost.rule {m : Mk} {vv vr vp v' v3 v4 : Value} {R : List Row3} {T N : List ByteArray} {w w' : World} {B : Nat} {r : Nat × Mk} (hr : r = (0, { m with rules := m.rules ++ [(T, N, [])] })) (hB : w.heap.size ≤ B) (hb : Below w.heap.size w w')
    (ho : w'.ownsRow B 89 3 v' (R.length + 1) (rcells R ++ [v3, v4, .slice none 0 0])) (h3 : Own1 w' B v3 T) (h4 : Own1 w' B v4 N) : LnPost r m vv vr vp R w (.returned (.tuple #[.agg #[vv, v', vp], .int .i64 0])) w' :=
  ⟨vv, v', vp, _, by rw [hr]; rfl, hb, fun X hX h W hs hk => by
    have hk' : ∀ b, B ≤ b → b < w'.heap.size → W.heap[b]? = w'.heap[b]? := fun b h1 h2 => hk b h2 (fun hx => by have := hX b hx; omega)
    rw [hr]
    exact (h.below hb W hs hk).rule (own_far ho hk') (own_far h3 hk') (own_far h4 hk')⟩
end Go.Proofs.YtkkoflbeggdblaaDoor
namespace Go.Proofs.YtkkoflbeggdblaaDoor
open Go.RowKit

/-- The two descriptions of the frame: the parameter's, at w.heap.size, and the result's, behind it. -/
structure Hd (w W : World) (vv vr vp : Value) : Prop where
  kx : W.heap[w.heap.size]? = some (.cells #[vv, vr, vp] 61 (0, 0))
  ky : W.heap[w.heap.size + 1]? = some (.cells #[.slice none 0 0, .slice none 0 0, .slice none 0 0] 61 (0, 0))
  bel : Below w.heap.size w W
section
variable {w W : World} {vv vr vp : Value}
theorem Hd.start (w : World) (vv vr vp : Value) : Hd w ((w.alloc (.cells #[vv, vr, vp] 61)).alloc (.cells #[.slice none 0 0, .slice none 0 0, .slice none 0 0] 61)) vv vr vp :=
  ⟨(Below.heap_alloc _ _ _ (by simp)).trans (World.alloc_heap_new _ _), by
    have := World.alloc_heap_new (w.alloc (.cells #[vv, vr, vp] 61)) (.cells #[.slice none 0 0, .slice none 0 0, .slice none 0 0] 61)
    rwa [World.size_alloc] at this, ((Below.refl _ _).alloc (Nat.le_refl _) _).alloc (by simp) _⟩
theorem Hd.lt (h : Hd w W vv vr vp) : w.heap.size + 1 < W.heap.size := (Array.getElem?_eq_some_iff.1 h.ky).1
theorem Hd.below (h : Hd w W vv vr vp) {W' : World} (hb : Below W.heap.size W W') : Hd w W' vv vr vp :=
  ⟨(hb.block _ (by have := h.lt; omega)).trans h.kx, (hb.block _ h.lt).trans h.ky, h.bel.trans (hb.mono h.bel.size)⟩
theorem Hd.cells (h : Hd w W vv vr vp) : W.cell? ⟨w.heap.size, 0, none⟩ = some vv ∧ W.cell? ⟨w.heap.size, 1, none⟩ = some vr ∧ W.cell? ⟨w.heap.size, 2, none⟩ = some vp ∧ W.cell? ⟨w.heap.size + 1, 0, none⟩ = some (.slice none 0 0) ∧ W.cell? ⟨w.heap.size + 1, 1, none⟩ = some (.slice none 0 0) ∧ W.cell? ⟨w.heap.size + 1, 2, none⟩ = some (.slice none 0 0) ∧
    W.frozen? ⟨w.heap.size + 1, 0, none⟩ = false ∧ W.frozen? ⟨w.heap.size + 1, 1, none⟩ = false ∧ W.frozen? ⟨w.heap.size + 1, 2, none⟩ = false := by
  have kx := h.kx
  have ky := h.ky
  refine ⟨?_, ?_, ?_, ?_, ?_, ?_, ?_, ?_, ?_⟩ <;> simp [World.cell?, World.frozen?, kx, ky]
theorem Hd.grown (h : Hd w W vv vr vp) : W.grownBy (((W.setCell ⟨w.heap.size + 1, 0, none⟩ vv).setCell ⟨w.heap.size + 1, 1, none⟩ vr).setCell ⟨w.heap.size + 1, 2, none⟩ vp) (some (w.heap.size + 1)) := (set3 h.ky vv vr vp).2
theorem Hd.ret (h : Hd w W vv vr vp) : (((W.setCell ⟨w.heap.size + 1, 0, none⟩ vv).setCell ⟨w.heap.size + 1, 1, none⟩ vr).setCell ⟨w.heap.size + 1, 2, none⟩ vp).cell? ⟨w.heap.size + 1, 0, none⟩ = some vv ∧
    (((W.setCell ⟨w.heap.size + 1, 0, none⟩ vv).setCell ⟨w.heap.size + 1, 1, none⟩ vr).setCell ⟨w.heap.size + 1, 2, none⟩ vp).cell? ⟨w.heap.size + 1, 1, none⟩ = some vr ∧
    (((W.setCell ⟨w.heap.size + 1, 0, none⟩ vv).setCell ⟨w.heap.size + 1, 1, none⟩ vr).setCell ⟨w.heap.size + 1, 2, none⟩ vp).cell? ⟨w.heap.size + 1, 2, none⟩ = some vp ∧
    Below w.heap.size w (((W.setCell ⟨w.heap.size + 1, 0, none⟩ vv).setCell ⟨w.heap.size + 1, 1, none⟩ vr).setCell ⟨w.heap.size + 1, 2, none⟩ vp) := by
  obtain ⟨h1, h2⟩ := set3 h.ky vv vr vp
  refine ⟨by simp [World.cell?, h1], by simp [World.cell?, h1], by simp [World.cell?, h1], h.bel.grown h2 h.bel.size (fun k hk => by injection hk with hk; omega)⟩
end
section
variable {w W : World} {vv vr vp : Value}
theorem Hd.setV (h : Hd w W vv vr vp) (v' : Value) : Hd w (W.setCell ⟨w.heap.size, 0, none⟩ v') v' vr vp :=
  ⟨(heap_set3 h.kx v').1, ((grown_set W w.heap.size 0 v').block _ h.lt (fun e => by injection e with e; omega)).trans h.ky, h.bel.grown (grown_set W w.heap.size 0 v') h.bel.size (fun k hk => by injection hk with hk; omega)⟩
theorem Hd.setR (h : Hd w W vv vr vp) (v' : Value) : Hd w (W.setCell ⟨w.heap.size, 1, none⟩ v') vv v' vp :=
  ⟨(heap_set3 h.kx v').2.1, ((grown_set W w.heap.size 1 v').block _ h.lt (fun e => by injection e with e; omega)).trans h.ky, h.bel.grown (grown_set W w.heap.size 1 v') h.bel.size (fun k hk => by injection hk with hk; omega)⟩
theorem Hd.setP (h : Hd w W vv vr vp) (v' : Value) : Hd w (W.setCell ⟨w.heap.size, 2, none⟩ v') vv vr v' :=
  ⟨(heap_set3 h.kx v').2.2, ((grown_set W w.heap.size 2 v').block _ h.lt (fun e => by injection e with e; omega)).trans h.ky, h.bel.grown (grown_set W w.heap.size 2 v') h.bel.size (fun k hk => by injection hk with hk; omega)⟩
theorem Hd.own (h : Hd w W vv vr vp) (j : Nat) (v' : Value) {B s n : Nat} {e : TypeId} {v : Value} {xs : List Value} (ho : W.ownsRow B e s v n xs) (he : 61 ≠ e) : (W.setCell ⟨w.heap.size, j, none⟩ v').ownsRow B e s v n xs :=
  ho.kept (grown_set W w.heap.size j v') (.inr (Ne.symm (row_not_blk ho h.kx he)))
theorem Hd.ownRet (h : Hd w W vv vr vp) {B s n : Nat} {e : TypeId} {v : Value} {xs : List Value} (ho : W.ownsRow B e s v n xs) (he : 61 ≠ e) : (((W.setCell ⟨w.heap.size + 1, 0, none⟩ vv).setCell ⟨w.heap.size + 1, 1, none⟩ vr).setCell ⟨w.heap.size + 1, 2, none⟩ vp).ownsRow B e s v n xs :=
  ho.kept h.grown (.inr (Ne.symm (row_not_blk ho h.ky he)))
end
/-- A rule in a block of its own, laid since w2. -/
structure RuCut (w2 wx : World) (b : Nat) (v3 v4 : Value) (T N : List ByteArray) : Prop where
  blk : wx.heap[b]? = some (.cells #[v3, v4, .slice none 0 0] 89 (0, 0))
  le : w2.heap.size ≤ b
  t : Own1 wx w2.heap.size v3 T
  n : Own1 wx w2.heap.size v4 N
  bel : Below w2.heap.size w2 wx
theorem RuCut.stored {w2 w4 : World} {b : Nat} {v3 v4 : Value} {T N : List ByteArray} (k : w4.heap[b]? = some (.cells #[.slice none 0 0, .slice none 0 0, .slice none 0 0] 89 (0, 0))) (hle : w2.heap.size ≤ b) (h3 : Own1 w4 w2.heap.size v3 T) (h4 : Own1 w4 w2.heap.size v4 N) (hb : Below w2.heap.size w2 w4) :
    RuCut w2 (((w4.setCell ⟨b, 0, none⟩ v3).setCell ⟨b, 1, none⟩ v4).setCell ⟨b, 2, none⟩ (.slice none 0 0)) b v3 v4 T N := by
  obtain ⟨h1, h2⟩ := set3 k v3 v4 (.slice none 0 0)
  exact ⟨h1, hle, h3.kept h2 (.inr (Ne.symm (row_not_blk h3 k (by decide)))), h4.kept h2 (.inr (Ne.symm (row_not_blk h4 k (by decide)))), hb.grown h2 hb.size (fun j hj => by injection hj with hj; omega)⟩
theorem RuCut.laid {w2 w4 : World} {v3 v4 : Value} {T N : List ByteArray} (h3 : Own1 w4 w2.heap.size v3 T) (h4 : Own1 w4 w2.heap.size v4 N) (hb : Below w2.heap.size w2 w4) :
    RuCut w2 (w4.alloc (.cells #[v3, v4, .slice none 0 0] 89)) w4.heap.size v3 v4 T N :=
  have hba : Below w4.heap.size w4 (w4.alloc (.cells #[v3, v4, .slice none 0 0] 89)) := (Below.refl _ _).alloc (Nat.le_refl _) _
  ⟨World.alloc_heap_new _ _, hb.size, rdS_below h3 hba, rdS_below h4 hba, hb.trans (hba.mono hb.size)⟩
theorem RuCut.below {w2 wx wy : World} {b : Nat} {v3 v4 : Value} {T N : List ByteArray} (h : RuCut w2 wx b v3 v4 T N) (hb : Below wx.heap.size wx wy) : RuCut w2 wy b v3 v4 T N :=
  ⟨(hb.block _ (Array.getElem?_eq_some_iff.1 h.blk).1).trans h.blk, h.le, rdS_below h.t hb, rdS_below h.n hb, h.bel.trans (hb.mono h.bel.size)⟩
theorem RuCut.cells {w2 wx : World} {b : Nat} {v3 v4 : Value} {T N : List ByteArray} (h : RuCut w2 wx b v3 v4 T N) : wx.cell? ⟨b, 0, none⟩ = some v3 ∧ wx.cell? ⟨b, 1, none⟩ = some v4 ∧ wx.cell? ⟨b, 2, none⟩ = some (.slice none 0 0) := by
  have k := h.blk
  refine ⟨?_, ?_, ?_⟩ <;> simp [World.cell?, k]
theorem zrule {w : World} {b : Nat} (k : w.heap[b]? = some (.cells #[.slice none 0 0, .slice none 0 0, .slice none 0 0] 89 (0, 0))) : w.cell? ⟨b, 0, none⟩ = some (.slice none 0 0) ∧ w.cell? ⟨b, 1, none⟩ = some (.slice none 0 0) ∧ w.cell? ⟨b, 2, none⟩ = some (.slice none 0 0) ∧ w.frozen? ⟨b, 0, none⟩ = false ∧ w.frozen? ⟨b, 1, none⟩ = false ∧ w.frozen? ⟨b, 2, none⟩ = false := by
  refine ⟨?_, ?_, ?_, ?_, ?_, ?_⟩ <;> simp [World.cell?, World.frozen?, k]

theorem pat_yes {s : ByteArray} (h : patB s = true) : ∃ i : Nat, findR s.data.toList [37] 0 = i := by
  rw [← contains37] at h
  unfold findR
  rw [List.drop_zero]
  have hge := Lib.index_ge s.data.toList [37]
  have h1 : Lib.index s.data.toList [37] ≠ -1 := by
    intro e
    unfold Lib.contains at h
    rw [e] at h
    simp at h
  rw [if_neg h1]
  exact ⟨(Lib.index s.data.toList [37]).toNat, by omega⟩
theorem pat_no {s : ByteArray} (h : patB s = false) : findR s.data.toList [37] 0 = -1 := by
  rw [← contains37] at h
  unfold findR
  rw [List.drop_zero]
  have hge := Lib.index_ge s.data.toList [37]
  have h1 : Lib.index s.data.toList [37] = -1 := by
    unfold Lib.contains at h
    simp at h
    omega
  rw [if_pos h1]
def PtRel (T : List ByteArray) (p i : Value) : Prop := ∃ k : Nat, k ≤ T.length ∧ i = .int .i64 k ∧ p = .bool ((T.take k).any patB)
theorem anyPat_snoc {T : List ByteArray} {k : Nat} {x : ByteArray} (h : T[k]? = some x) : (T.take (k + 1)).any patB = ((T.take k).any patB || patB x) := by rw [take_snocT h, List.any_append]; simp
structure ShRel (wX : World) (all : List ByteArray) (pat : Bool) (i : Value) (wr : World) : Prop where
  ex : ∃ k : Nat, k ≤ all.length ∧ i = .int .i64 k ∧ (∀ j x, j < k → all[j]? = some x → wordOk all pat j x = true) ∧ ∃ q, wr = wX.drewN q

end Go.Proofs.YtkkoflbeggdblaaDoor
