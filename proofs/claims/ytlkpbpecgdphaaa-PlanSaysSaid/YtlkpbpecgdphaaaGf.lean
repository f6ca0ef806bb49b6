/-
  WALKS: strings.Replace of the first '%' by any text; graph.filled: the needs with a stem in place of their '%'.
-/
import Derived.Test.YtlkpbpecgdphaaaFields
import Derived.Test.YtlkpbpecgdphaaaSet
import Derived.Test.YtlkpbpecgdphaaaExpText
import Derived.Test.YtlkpbpecgdphaaaRefWords
import Derived.Test.YtlkpbpecgdphaaaLight
import Derived.Test.YtlkpbpecgdphaaaMem
import Derived.Test.YtlkpbpecgdphaaaTexts
namespace Go.Proofs.Ytlkpbpecgdphaaa
open Go.RowKit

structure Gp where
  tg : List ByteArray
  nd : List ByteArray
  cm : List ByteArray
  ph : Bool
/-- Which rule names a target. -/
def explO (rules : List Ru) (name : ByteArray) : Option Nat := rules.findIdx? fun r => inT r.1 name
/-- Which group makes a name. -/
def makerO (out : List Gp) (name : ByteArray) : Option Nat := out.findIdx? fun g => inT g.tg name
def idxV (o : Option Nat) : Int := match o with
  | some i => i
  | none => -1
def newG (tg nd cm : List ByteArray) (stem : ByteArray) (ph : Bool) : Gp := ⟨tg, nd, cm.map (fun c => ba (autoT c tg nd stem)), ph⟩
def fillR (nd : List ByteArray) (stem : ByteArray) : List ByteArray := nd.map (onceB · stem)
def grpOf (r : Ru) (tg : List ByteArray) (stem : ByteArray) (ph : Bool) : Gp := newG tg (fillR r.2.1 stem) r.2.2 stem ph
def fitsB (rules : List Ru) (l : List F) (name : ByteArray) (r : Ru) : Bool := (stemR (headT r.1) name).2 && (fillR r.2.1 (stemR (headT r.1) name).1).all fun n => has l n || (explO rules n).isSome
def expG (m : Mk) (r : Ru) : Gp := newG r.1 r.2.1 r.2.2 ⟨#[]⟩ (inT m.phony (headT r.1))
def patG (name : ByteArray) (r : Ru) : Gp := newG [name] (fillR r.2.1 (stemR (headT r.1) name).1) r.2.2 (stemR (headT r.1) name).1 false
def grpR (m : Mk) (l : List F) (name : ByteArray) : Option Gp := match explO m.rules name with
  | some i => (m.rules[i]?).map (expG m)
  | none => match m.rules.findIdx? (fitsB m.rules l name) with
    | some i => (m.rules[i]?).map (patG name)
    | none => none
def needsR (f : ByteArray → List Gp → Nat × List Gp) : List ByteArray → List Gp → Nat × List Gp
  | [], out => (0, out)
  | x :: xs, out => if (f x out).1 ≠ 0 then f x out else needsR f xs (f x out).2
def visitR (m : Mk) (l : List F) : Nat → ByteArray → List ByteArray → List Gp → Nat × List Gp
  | 0, _, _, out => (0, out)
  | n + 1, name, way, out =>
    if inT way name = true then (8, out) else if (makerO out name).isSome = true then (0, out) else
    match grpR m l name with
    | none => if has l name = true then (0, out) else (5, out)
    | some g =>
      if (needsR (fun x o => visitR m l n x (way ++ g.tg) o) g.nd out).1 ≠ 0 then needsR (fun x o => visitR m l n x (way ++ g.tg) o) g.nd out
      else if 10 ≤ (needsR (fun x o => visitR m l n x (way ++ g.tg) o) g.nd out).2.length then (2, out)
      else (0, (needsR (fun x o => visitR m l n x (way ++ g.tg) o) g.nd out).2 ++ [g])

theorem findIdx_next {α : Type} {p : α → Bool} {l : List α} {k : Nat} {x : α} (h : l.findIdx? p = ((l.drop k).findIdx? p).map (· + k)) (hx : l[k]? = some x) :
    (p x = true → l.findIdx? p = some k) ∧ (p x = false → l.findIdx? p = ((l.drop (k + 1)).findIdx? p).map (· + (k + 1))) := by
  have hk : k < l.length := (List.getElem?_eq_some_iff.1 hx).1
  have hd : l.drop k = x :: l.drop (k + 1) := by
    rw [List.drop_eq_getElem_cons hk]
    congr 1
    exact (List.getElem?_eq_some_iff.1 hx).2
  rw [hd, List.findIdx?_cons] at h
  refine ⟨fun hp => ?_, fun hp => ?_⟩
  · rw [hp, if_pos rfl] at h
    rw [h]; simp
  · rw [hp, if_neg (by simp)] at h
    rw [h]
    cases (l.drop (k + 1)).findIdx? p with
    | none => rfl
    | some j => simp; omega
theorem findIdx_end {α : Type} {p : α → Bool} {l : List α} {k : Nat} (h : l.findIdx? p = ((l.drop k).findIdx? p).map (· + k)) (hk : l.length ≤ k) : l.findIdx? p = none := by
  rw [List.drop_of_length_le hk] at h
  simpa using h

/-! A slice of groups: rows of three slices and a bool. -/
abbrev Row4 := Value × Value × Value × Bool
def gcells (R : List Row4) : List Value := R.flatMap fun x => [x.1, x.2.1, x.2.2.1, .bool x.2.2.2]
theorem gcells_cons (x : Row4) (l : List Row4) : gcells (x :: l) = x.1 :: x.2.1 :: x.2.2.1 :: .bool x.2.2.2 :: gcells l := rfl
theorem gcells_append (a b : List Row4) : gcells (a ++ b) = gcells a ++ gcells b := by simp [gcells]
theorem gcells_at {R : List Row4} {i : Nat} {x : Row4} (h : R[i]? = some x) : (gcells R)[i * 4]? = some x.1 ∧ (gcells R)[i * 4 + 1]? = some x.2.1 ∧ (gcells R)[i * 4 + 2]? = some x.2.2.1 ∧ (gcells R)[i * 4 + 3]? = some (.bool x.2.2.2) := by
  induction R generalizing i with
  | nil => simp at h
  | cons y R ih =>
    cases i with
    | zero => simp at h; subst h; exact ⟨rfl, rfl, rfl, rfl⟩
    | succ i =>
      rw [List.getElem?_cons_succ] at h
      rw [gcells_cons, show (i + 1) * 4 = i * 4 + 1 + 1 + 1 + 1 by omega]
      exact ih h
def RdG4 (w : World) (B : Nat) (A : Option Addr) (n c : Nat) (R : List Row4) : Prop :=
  R.length = n ∧ n ≤ c ∧ c ≤ maxLen ∧ (0 < n → ∃ b off, A = some ⟨b, off, none⟩ ∧ b < B ∧ ∀ j u, (gcells R)[j]? = some u → w.cell? ⟨b, off + j, none⟩ = some u)
theorem RdG4.belowS {w w' : World} {A : Option Addr} {n c : Nat} {R : List Row4} (h : RdG4 w w.heap.size A n c R) (hb : Below w.heap.size w w') : RdG4 w' w'.heap.size A n c R :=
  ⟨h.1, h.2.1, h.2.2.1, fun hn => by
    obtain ⟨b, off, e, hbb, hc⟩ := h.2.2.2 hn
    exact ⟨b, off, e, Nat.lt_of_lt_of_le hbb hb.size, fun j u hu => (hb.cell (p := ⟨b, off + j, none⟩) hbb).trans (hc j u hu)⟩⟩
theorem RdG4.at_ {w : World} {B : Nat} {A : Option Addr} {n c : Nat} {R : List Row4} (h : RdG4 w B A n c R) {i : Nat} {x : Row4} (hi : R[i]? = some x) : ∃ b off, A = some ⟨b, off, none⟩ ∧ b < B ∧ w.cell? ⟨b, off + i * 4, none⟩ = some x.1 ∧ w.cell? ⟨b, off + i * 4 + 1, none⟩ = some x.2.1 ∧ w.cell? ⟨b, off + i * 4 + 2, none⟩ = some x.2.2.1 ∧ w.cell? ⟨b, off + i * 4 + 3, none⟩ = some (.bool x.2.2.2) := by
  have hl : i < R.length := (List.getElem?_eq_some_iff.1 hi).1
  obtain ⟨b, off, e, hb, hc⟩ := h.2.2.2 (by have := h.1; omega)
  obtain ⟨h1, h2, h3, h4⟩ := gcells_at hi
  exact ⟨b, off, e, hb, hc _ _ h1, hc _ _ h2, hc _ _ h3, hc _ _ h4⟩
/-- A slice of groups, as they read. -/
structure GpRd (w : World) (A : Option Addr) (n c : Nat) (out : List Gp) (R : List Row4) : Prop where
  rows : RdG4 w w.heap.size A n c R
  len : out.length = n
  each : ∀ (i : Nat) (x : Row4) (g : Gp), R[i]? = some x → out[i]? = some g → Sl w x.1 g.tg ∧ Sl w x.2.1 g.nd ∧ Sl w x.2.2.1 g.cm ∧ x.2.2.2 = g.ph
theorem GpRd.belowS {w w' : World} {A : Option Addr} {n c : Nat} {out : List Gp} {R : List Row4} (h : GpRd w A n c out R) (hb : Below w.heap.size w w') : GpRd w' A n c out R :=
  ⟨h.rows.belowS hb, h.len, fun i x g hx hg => by obtain ⟨a, b, c, d⟩ := h.each i x g hx hg; exact ⟨a.belowS hb, b.belowS hb, c.belowS hb, d⟩⟩
end Go.Proofs.Ytlkpbpecgdphaaa
namespace Go.Proofs.Ytlkpbpecgdphaaa
open Go.RowKit

/-- The slice (A, m, c) reads as cells, 'size' for each element. -/
def RdX (w : World) (size : Nat) (A : Option Addr) (m : Nat) (xs : List Value) : Prop :=
  xs.length = m * size ∧ (∀ u ∈ xs, u.oneCell' = true) ∧ (0 < m → ∃ b off, A = some ⟨b, off, none⟩ ∧ ∀ j u, xs[j]? = some u → w.cell? ⟨b, off + j, none⟩ = some u)
theorem RdX.new (w : World) (size : Nat) (cs : Array Value) (t : TypeId) (hs : cs.size = size) (h1 : ∀ u ∈ cs.toList, u.oneCell' = true) : RdX (w.alloc (.cells cs t)) size (some ⟨w.heap.size, 0, none⟩) 1 cs.toList :=
  ⟨by simp [hs], h1, fun _ => ⟨w.heap.size, 0, rfl, fun j u hu => by
    rw [Nat.zero_add, (Blk.new w t cs).cell j, ← Array.getElem?_toList]
    exact hu⟩⟩
theorem RdX.keep {w w' : World} {size m : Nat} {A : Option Addr} {xs : List Value} (h : RdX w size A m xs) (hk : ∀ b, (∃ off, A = some ⟨b, off, none⟩) → w'.heap[b]? = w.heap[b]?) : RdX w' size A m xs :=
  ⟨h.1, h.2.1, fun hm => by
    obtain ⟨b, off, e, hc⟩ := h.2.2 hm
    exact ⟨b, off, e, fun j u hu => (World.cell?_of_block (w := w) (hk b ⟨off, e⟩)).trans (hc j u hu)⟩⟩
section
variable {P : Program} (w : World)
theorem run_append_rd (base : Nat) (t ty e : TypeId) (i : TypeInfo) (z : Value) (size bytes : Nat) (ht : P.underlying t = some (.slice e)) (hi : P.info? e = some i) (hz : i.zero = some z)
    (hsize : i.size = size) (hby : i.bytes = bytes) (hzs : z.cells.size = size) (hsz : 0 < size)
    (v : Value) (n : Nat) (ys : List Value) (hown : w.ownsRow base e size v n ys)
    (A : Option Addr) (m c : Nat) (xs : List Value) (hr : RdX w size A m xs)
    (h63 : n + m ≤ maxLen) (hbytes : (n + m) * bytes ≤ 140737488355328) (hbase : base ≤ w.heap.size) :
    ∃ v' w', (Builtin.append_ #[t, t] ty #[v, .slice A m c]).run P w = .ok v' w' ∧ w'.ownsRow base e size v' (n + m) (ys ++ xs) ∧ w.grownBy w' v.ownBlock ∧ (v'.ownBlock = v.ownBlock ∨ v'.ownBlock = some w.heap.size) := by
  rcases A with _ | ad
  · have hm : m = 0 := by
      rcases Nat.eq_zero_or_pos m with h0 | h0
      · exact h0
      · obtain ⟨b, off, h, _⟩ := hr.2.2 h0
        cases h
    subst hm
    have hn : xs = [] := List.eq_nil_of_length_eq_zero (by rw [hr.1]; omega)
    subst hn
    refine ⟨v, w, ?_, by simpa using hown, World.grownBy.refl w _, .inl rfl⟩
    rcases hown.2 with ⟨rfl, rfl⟩ | ⟨g, cap, cur, rfl, _, _, hnc, _⟩
    · simp [Builtin.append_, run_underlying ht, sizeOf, typeInfo, hi, Builtin.lenOf, Builtin.firstCells]
    · simp [Builtin.append_, run_underlying ht, sizeOf, typeInfo, hi, Builtin.lenOf, Builtin.firstCells, hnc, storeCells]
  · have hcells : ∀ j u, xs[j]? = some u → w.cell? (ad.add j) = some u := by
      intro j u hu
      rcases Nat.eq_zero_or_pos m with h0 | h0
      · have hn : xs = [] := List.eq_nil_of_length_eq_zero (by rw [hr.1, h0]; omega)
        subst hn
        simp at hu
      · obtain ⟨b, off, h, hc⟩ := hr.2.2 h0
        injection h with h
        subst h
        rw [Go.WideShapes.add_plain]
        exact hc j u hu
    obtain ⟨v', w', hrun, h2, h3, _, h5⟩ := run_append_own_at (P := P) w base t ty e i z size bytes ht hi hz hsize hby hzs hsz v n ys hown ad m c xs hr.1 hcells hr.2.1 h63 hbytes hbase
    exact ⟨v', w', hrun, h2, h3, h5⟩
theorem wp_append_rd {o : Oper} {a : Act} {K : Act → World → Prop} {Q : Exit → Act → World → Prop} (s x : Operand) (t : TypeId)
    (ho : o.op = .call { callee := .builtin .append, args := #[s, x], argTypes := #[t, t] })
    (base : Nat) (e : TypeId) (i : TypeInfo) (z : Value) (size bytes : Nat) (ht : P.underlying t = some (.slice e)) (hi : P.info? e = some i) (hz : i.zero = some z)
    (hsize : i.size = size) (hby : i.bytes = bytes) (hzs : z.cells.size = size) (hsz : 0 < size)
    (v : Value) (n : Nat) (ys : List Value) (hs : a.eval s = v) (hown : w.ownsRow base e size v n ys)
    (A : Option Addr) (m c : Nat) (xs : List Value) (hx : a.eval x = .slice A m c) (hr : RdX w size A m xs)
    (h63 : n + m ≤ maxLen) (hbytes : (n + m) * bytes ≤ 140737488355328) (hbase : base ≤ w.heap.size)
    (h : ∀ v' w', w'.ownsRow base e size v' (n + m) (ys ++ xs) → w.grownBy w' v.ownBlock → (v'.ownBlock = v.ownBlock ∨ v'.ownBlock = some w.heap.size) → K (a.put o.dst v') w') : o.wp P a w K Q := by
  obtain ⟨v', w', hrun, h2, h3, h4⟩ := run_append_rd (P := P) w base t o.type e i z size bytes ht hi hz hsize hby hzs hsz v n ys hown A m c xs hr h63 hbytes hbase
  unfold Oper.wp execOp
  simp only [ho, resolve, invoke, builtin, Sem.run_bind, Sem.run_pure, Result.andThen_ok, List.map_toArray, List.map_cons, List.map_nil, hs, hx, hrun]
  exact h v' w' h2 h3 h4
theorem wpList_append_rd {ops : Array Oper} {rest : List Oper} {o : Oper} {a : Act} {Q : Exit → Act → World → Prop} (hgd : o.guard = none) (s x : Operand) (t : TypeId)
    (ho : o.op = .call { callee := .builtin .append, args := #[s, x], argTypes := #[t, t] })
    (base : Nat) (e : TypeId) (i : TypeInfo) (z : Value) (size bytes : Nat) (ht : P.underlying t = some (.slice e)) (hi : P.info? e = some i) (hz : i.zero = some z)
    (hsize : i.size = size) (hby : i.bytes = bytes) (hzs : z.cells.size = size) (hsz : 0 < size)
    (v : Value) (n : Nat) (ys : List Value) (hs : a.eval s = v) (hown : w.ownsRow base e size v n ys)
    (A : Option Addr) (m c : Nat) (xs : List Value) (hx : a.eval x = .slice A m c) (hr : RdX w size A m xs)
    (h63 : n + m ≤ maxLen) (hbytes : (n + m) * bytes ≤ 140737488355328) (hbase : base ≤ w.heap.size)
    (h : ∀ v' w', w'.ownsRow base e size v' (n + m) (ys ++ xs) → w.grownBy w' v.ownBlock → (v'.ownBlock = v.ownBlock ∨ v'.ownBlock = some w.heap.size) → wpList P ops Q rest (a.put o.dst v') w') : wpList P ops Q (o :: rest) a w :=
  wpList_plain hgd fun _ hK => wp_append_rd w s x t ho base e i z size bytes ht hi hz hsize hby hzs hsz v n ys hs hown A m c xs hx hr h63 hbytes hbase fun v' w' h2 h3 h4 => hK _ _ (h v' w' h2 h3 h4)
theorem step_append_rd {ops : Array Oper} {o : Oper} {a : Act} {K : Act → World → Prop} {Q : Exit → Act → World → Prop} {E : Prop} (hgd : o.guard = none) (s x : Operand) (t : TypeId)
    (ho : o.op = .call { callee := .builtin .append, args := #[s, x], argTypes := #[t, t] })
    (base : Nat) (e : TypeId) (i : TypeInfo) (z : Value) (size bytes : Nat) (ht : P.underlying t = some (.slice e)) (hi : P.info? e = some i) (hz : i.zero = some z)
    (hsize : i.size = size) (hby : i.bytes = bytes) (hzs : z.cells.size = size) (hsz : 0 < size)
    (v : Value) (n : Nat) (ys : List Value) (hs : a.eval s = v) (hown : w.ownsRow base e size v n ys)
    (A : Option Addr) (m c : Nat) (xs : List Value) (hx : a.eval x = .slice A m c) (hr : RdX w size A m xs)
    (h63 : n + m ≤ maxLen) (hbytes : (n + m) * bytes ≤ 140737488355328) (hbase : base ≤ w.heap.size)
    (h : ∀ v' w', w'.ownsRow base e size v' (n + m) (ys ++ xs) → w.grownBy w' v.ownBlock → (v'.ownBlock = v.ownBlock ∨ v'.ownBlock = some w.heap.size) → K (a.put o.dst v') w') :
    if Region.wanted o (yielded ops a.tmps) = true then Oper.wp P o a w K Q else E := by
  have hw : Region.wanted o (yielded ops a.tmps) = true := by simp [Region.wanted, hgd]
  rw [if_pos hw]
  exact wp_append_rd w s x t ho base e i z size bytes ht hi hz hsize hby hzs hsz v n ys hs hown A m c xs hx hr h63 hbytes hbase h
end
end Go.Proofs.Ytlkpbpecgdphaaa
namespace Go.Sort
end Go.Sort
namespace Go.Proofs.Ytlkpbpecgdphaaa
open Go.RowKit

abbrev One (b : Nat) : Nat → Prop := fun k => k = b
abbrev tFi : TypeId := 57
abbrev tStr : TypeId := 9
abbrev tRec : TypeId := 29
def zeroR : Array Value := #[.slice none 0 0, .slice none 0 0, .slice none 0 0]
abbrev tGr : TypeId := 49
/-- Of a block of one type and a row of another: the row lies elsewhere. -/
theorem row_block_ne {w : World} {base s : Nat} {e T : TypeId} {v : Value} {n b : Nat} {xs : List Value} {cs : Array Value} (h : w.ownsRow base e s v n xs) (hb : Blk w b T cs) (ht : T ≠ e) : v.ownBlock ≠ some b := by
  rcases h.2 with ⟨rfl, _⟩ | ⟨g, cap, cur, rfl, _, hg, _⟩
  · intro e; cases e
  · intro e
    obtain rfl : g = b := by injection e
    unfold Blk at hb
    rw [hg] at hb
    injection hb with hb
    injection hb with _ hb _
    exact ht hb.symm
theorem ownsRow_kept {w w' : World} {base s : Nat} {e : TypeId} {v : Value} {n : Nat} {xs : List Value} (h : w.ownsRow base e s v n xs) (hb : ∀ g, v.ownBlock = some g → w'.heap[g]? = w.heap[g]?) : w'.ownsRow base e s v n xs := by
  refine ⟨h.1, ?_⟩
  rcases h.2 with h2 | ⟨g, cap, cur, rfl, h3, h4, h5⟩
  · exact .inl h2
  · exact .inr ⟨g, cap, cur, rfl, h3, (hb g rfl).trans h4, h5⟩
theorem below_drews (w : World) (n : Nat) : Below w.heap.size w (w.drewN n) := by
  induction n with
  | zero => exact Below.refl _ _
  | succ n ih => exact ih.trans (Below.refl _ _).drew
theorem Upd.of_below {w w' : World} (h : Below w.heap.size w w') (S : Nat → Prop) : Upd w w' S := ⟨h.os, h.tape, h.output, h.size, fun k hk _ => h.block k hk⟩
theorem Upd.setOne {w w' : World} {b : Nat} (h : Upd w w' (One b)) (i : Nat) (v : Value) : Upd w (w'.setCell ⟨b, i, none⟩ v) (One b) := h.set (.inr rfl) v
theorem Upd.two {a b c : World} {k : Nat} (h : Upd a b (One k)) (g : Upd b c (One k)) : Upd a c (One k) := h.trans g (fun _ _ h => h)
theorem RdF_1 (w : World) (x t : ByteArray) (e : TypeId) : RdF (w.alloc (.cells #[.string x, .string t] e)) (w.heap.size + 1) (some ⟨w.heap.size, 0, none⟩) 1 1 [(x, t)] := by
  refine ⟨rfl, Nat.le_refl _, by unfold maxLen; omega, fun _ => ⟨w.heap.size, 0, rfl, by omega, fun j u hu => ?_⟩⟩
  rw [World.cell?_alloc_at _ _ _ _ rfl]
  match j with
  | 0 => simpa [fcells] using hu
  | 1 => simpa [fcells] using hu
  | j + 2 => simp [fcells] at hu
theorem str_parts : ∃ i, Try.prog.info? tStr = some i ∧ i.zero = some (.string ByteArray.empty) ∧ i.size = 1 ∧ i.bytes = 16 := by
  have h : (Try.prog.info? tStr).map (fun i => (i.zero, i.size, i.bytes)) = some (some (.string ByteArray.empty), 1, 16) := by kernel_rfl
  cases e : Try.prog.info? tStr with
  | none => rw [e] at h; cases h
  | some i =>
    rw [e] at h
    simp only [Option.map_some, Option.some.injEq, Prod.mk.injEq] at h
    exact ⟨i, rfl, h.1, h.2.1, h.2.2⟩
theorem rdx_one (w : World) (s : ByteArray) : RdX (w.alloc (.cells #[.string s] tStr)) 1 (some ⟨w.heap.size, 0, none⟩) 1 [.string s] := RdX.new w 1 #[.string s] tStr rfl (by intro u hu; simp at hu; subst hu; rfl)
theorem ownT_more {w : World} {B B' n s : Nat} {e : TypeId} {v : Value} {xs : List Value} (h : w.ownsRow B e s v n xs) (hB : B' ≤ B) : w.ownsRow B' e s v n xs := by
  refine ⟨h.1, ?_⟩
  rcases h.2 with k | ⟨g, cap, cur, k1, k2, k3⟩
  · exact .inl k
  · exact .inr ⟨g, cap, cur, k1, by omega, k3⟩
theorem tcells_snoc (l : List ByteArray) (t : ByteArray) : tcells (l ++ [t]) = tcells l ++ [.string t] := by simp [tcells]
theorem below_one {w w' w2 : World} {b B : Nat} (h : Below B w w') (hB : B ≤ w'.heap.size) (hb : B ≤ b) (hu : Upd w' w2 (One b)) : Below B w w2 := h.trans (hu.below hB (fun k hk => by rw [show k = b from hk]; exact hb))
theorem own_upd {w w' : World} {base s n b : Nat} {e : TypeId} {v : Value} {xs : List Value} (h : w.ownsRow base e s v n xs) (hu : Upd w w' (One b)) (hb : v.ownBlock ≠ some b) : w'.ownsRow base e s v n xs :=
  ownsRow_kept h (fun g hg => hu.block g (h.lt g hg).2 (fun e => hb (by rw [hg]; exact congrArg some e)))
theorem own_set {w : World} {base s n p i : Nat} {e : TypeId} {v u : Value} {xs : List Value} (h : w.ownsRow base e s v n xs) (hb : v.ownBlock ≠ some p) : (w.setCell ⟨p, i, none⟩ u).ownsRow base e s v n xs :=
  ownsRow_kept h (fun g hg => Below.heap_setCell _ _ _ _ (fun e => hb (by rw [hg]; exact congrArg some e)))
theorem own_old {w _w' : World} {base s n p : Nat} {e : TypeId} {v : Value} {xs : List Value} (h : w.ownsRow base e s v n xs) (hp : p < base) : v.ownBlock ≠ some p := fun e => by have := (h.lt p e).1; omega
theorem results_cell1 {fn : Func} {p : Tmp} {ty : TypeId} (h : fn.results = #[.cell p ty]) (tmps : Array Value) (P : Program) (w : World) :
    (results fn tmps).run P w = ((asAddr (tmps.getD p undef)).run P w).andThen fun a w₁ => (loadVar ty a).run P w₁ := by
  simp only [results, h]
  simp [Sem.run_bind, Result.andThen]
theorem rdx_file (w : World) (x t : ByteArray) : RdX (w.alloc (.cells #[.string x, .string t] tFi)) 2 (some ⟨w.heap.size, 0, none⟩) 1 [.string x, .string t] := RdX.new w 2 #[.string x, .string t] tFi rfl (by intro u hu; simp at hu; rcases hu with rfl | rfl <;> rfl)
theorem rows_apart {w : World} {B B' s s' n n' : Nat} {e e' : TypeId} {v v' : Value} {xs xs' : List Value} (h : w.ownsRow B e s v n xs) (h' : w.ownsRow B' e' s' v' n' xs') (ht : e ≠ e') (g : Nat) (hg : v.ownBlock = some g) : v'.ownBlock ≠ some g := by
  intro hg'
  rcases h.2 with ⟨rfl, _⟩ | ⟨g1, cap, cur, rfl, _, k1, _⟩
  · cases hg
  rcases h'.2 with ⟨rfl, _⟩ | ⟨g2, cap', cur', rfl, _, k2, _⟩
  · cases hg'
  obtain rfl : g1 = g := by injection hg
  obtain rfl : g2 = g1 := by injection hg'
  rw [k1] at k2
  injection k2 with k2
  injection k2 with _ k2 _
  exact ht k2
theorem own_grown {w w' : World} {base s n : Nat} {e : TypeId} {v u : Value} {xs : List Value} (h : w.ownsRow base e s v n xs) (hg : w.grownBy w' u.ownBlock) (hs : ∀ g, v.ownBlock = some g → u.ownBlock ≠ some g) : w'.ownsRow base e s v n xs :=
  ownsRow_kept h (fun g hv => hg.block g (h.lt g hv).2 (fun e' => hs g hv e'.symm))
end Go.Proofs.Ytlkpbpecgdphaaa
namespace Go.Proofs.Ytlkpbpecgdphaaa
open Go.RowKit

theorem replace_first (s y : ByteArray) : (⟨(Lib.replace s.data.toList [37] y.data.toList 1).toArray⟩ : ByteArray) = onceB s y := by
  by_cases hy : y.data.toList = [37]
  · have e : Lib.replace s.data.toList [37] y.data.toList 1 = s.data.toList := by
      unfold Lib.replace
      rw [hy, if_pos (by rfl)]
    rw [e]
    unfold onceB
    split
    · rename_i h
      rcases Lib.index_spec s.data.toList [37] with ⟨h1, _⟩ | ⟨i, h1, _, h3, _⟩
      · rw [cut_none h1] at h; cases h
      · rw [cut_at h1, hy]
        unfold Lib.occAt at h3
        rw [List.isPrefixOf_iff_prefix] at h3
        obtain ⟨t, ht⟩ := h3
        have e2 : s.data.toList.drop (i + [(37 : UInt8)].length) = t := by
          rw [← List.drop_drop, ← ht]; simp
        dsimp only
        rw [e2, ht, List.take_append_drop]
        rfl
    · rfl
  unfold Lib.replace onceB
  rw [if_neg (by simp; intro h; exact hy (by rw [← h]))]
  have hge := Lib.index_ge s.data.toList [37]
  by_cases h : Lib.index s.data.toList [37] = -1
  · rw [cut_none h]
    have hc : Lib.count s.data.toList [37] = 0 := by
      unfold Lib.count Lib.countFrom
      simp [h]
    have hn : Lib.replaceNum s.data.toList [37] 1 = 0 := by unfold Lib.replaceNum; rw [hc]; simp
    rw [hn]
    simp only [Lib.replaceK, Bool.false_eq_true, if_false]
  · obtain ⟨i, ei⟩ : ∃ i : Nat, Lib.index s.data.toList [37] = i := ⟨(Lib.index s.data.toList [37]).toNat, by omega⟩
    rw [cut_at ei]
    have hc : 1 ≤ Lib.count s.data.toList [37] := by
      unfold Lib.count Lib.countFrom
      have : (Lib.index s.data.toList [37] == -1) = false := by rw [beq_eq_false_iff_ne]; exact h
      rw [this]
      simp
    have hn : Lib.replaceNum s.data.toList [37] 1 = 1 := by unfold Lib.replaceNum; rw [if_neg (by omega)]; rfl
    rw [hn, Lib.replaceK_hit _ _ _ _ i ei]
    simp [Lib.replaceK, ba]

structure GfiRel (w : World) (nd : List ByteArray) (stem : ByteArray) (n : Nat) (v i : Value) (wr : World) : Prop where
  ex : ∃ (k : Nat), k ≤ n ∧ i = .int .i64 k ∧ wr.ownsRow w.heap.size 9 1 v k (tcells (fillR (nd.take k) stem)) ∧ Below w.heap.size w wr
theorem fillR_take {nd : List ByteArray} {stem x : ByteArray} {k : Nat} (h : nd[k]? = some x) : fillR (nd.take (k + 1)) stem = fillR (nd.take k) stem ++ [onceB x stem] := by
  unfold fillR
  rw [List.take_add_one, h]; simp
end Go.Proofs.Ytlkpbpecgdphaaa
