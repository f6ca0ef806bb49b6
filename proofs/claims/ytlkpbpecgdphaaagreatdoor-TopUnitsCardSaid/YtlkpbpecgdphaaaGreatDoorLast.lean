/-
  WALKS: slices.Backward over a slice of variables, and expand.last: the text of the last variable of a name, and whether there is one; for at most a million variables.
-/
import Derived.RangeFuncNested
import Derived.RangeFuncBound
import Derived.RangeFuncCalls
import Derived.RangeFuncLeaves
import Derived.Shelf.Abstract
import Derived.WalkKit
import Derived.OwnWalkIn
import Derived.TacticsInMore
import Derived.LoopNIn
import Derived.LoopIn
import Derived.Test.YtlkpbpecgdphaaaGreatDoorMax
import Derived.Test.YtlkpbpecgdphaaaGreatDoorSearch
namespace Go.Proofs.YtlkpbpecgdphaaaGreatDoor
open Go.RowKit Go.Shelf
attribute [local go_sem] Oper.semAt_some

/-- What has come when k rounds are over. -/
def upto {α : Type} (f : Nat → α) (k : Nat) : List α := (List.range k).map f
theorem upto_succ {α : Type} (f : Nat → α) (k : Nat) : upto f (k + 1) = upto f k ++ [f k] := by simp [upto, List.range_succ]
theorem upto_length {α : Type} (f : Nat → α) (k : Nat) : (upto f k).length = k := by simp [upto]
/-- The k-th from behind. -/
def bkAt (vs : List F) (k : Nat) : Nat × F := (vs.length - 1 - k, vs[vs.length - 1 - k]?.getD (ByteArray.empty, ByteArray.empty))
def encV (x : Nat × F) : Array Value := #[.int .i64 (x.1 : Int), .agg #[.string x.2.1, .string x.2.2]]

set_option maxRecDepth 100000 in
set_option maxHeartbeats 2000000 in
theorem backward1_in (F : Fence) (n : Nat) (h1 : F.fn 206) (hro : F.round = none) (hn : 1 ≤ n) (l Bs n₀ : Nat) (A : Option Addr) (len cap : Nat) (vs : List Proofs.YtlkpbpecgdphaaaGreatDoor.F) (hlen : len ≤ 1000000) (hBsn : Bs < n₀) (J Jx : List (Nat × Proofs.YtlkpbpecgdphaaaGreatDoor.F) → World → Prop)
    (hY : ∀ pre x W, J pre W → pre.length < len → YieldAt F (n - 1) Tryz.prog l #[.int .i64 (x.1 : Int), .agg #[.string x.2.1, .string x.2.2]] W fun e W' =>
      (e = .returned (.bool true) ∧ J (pre ++ [x]) W' ∧ Below n₀ W W') ∨ (e = .returned (.bool false) ∧ Jx (pre ++ [x]) W'))
    (W : World) (hBs : W.cell? ⟨Bs, 0, none⟩ = some (.slice A len cap)) (hR : RdF W n₀ A len cap vs) (h0 : J [] W) :
    CallsIn F n Tryz.prog 206 #[.func (.yield l) #[] #[], .pointer (some ⟨Bs, 0, none⟩)] W fun e W' => (∃ v, e = .returned v) ∧
      ((∃ ys, ys = upto (bkAt vs) len ∧ J ys W') ∨ (∃ pre, (∃ k, k ≤ len ∧ pre = upto (bkAt vs) k) ∧ Jx pre W')) := by
  have hvl := hR.1
  have HV := Lib.hid hvl
  have HR := Lib.hid hR
  clear hR hvl
  refine callsIn_of_wp Tryz.func206 rfl h1 ?_ hro
  simp only [Tryz.ntmps206, List.size_toArray, List.length_cons, List.length_nil, Nat.reduceAdd, Nat.reduceSub, Array.replicate_succ, Array.replicate_zero, List.push_toArray, List.append_toArray, List.nil_append, List.cons_append]
  gi_wp2
  gi_loopw [3] (fun i wr => ∃ k : Nat, k ≤ len ∧ i = .int .i64 ((len : Int) - 1 - k) ∧ J (upto (bkAt vs) k) wr ∧ Below n₀ W wr)
    (fun i _ => (intOf i + 1).toNat)
  case atStart => exact ⟨0, Nat.zero_le _, by first | rfl | (congr 1; go_num) | (simp only [Value.int.injEq, true_and]; go_num; omega), h0, Below.refl _ _⟩
  case round =>
    obtain ⟨k, hk, rfl, hJs, hnx⟩ := hrel
    have hBs' : wr.cell? ⟨Bs, 0, none⟩ = some (.slice A len cap) := (hnx.cell (p := ⟨Bs, 0, none⟩) hBsn).trans hBs
    by_cases hlt : k < len
    · obtain ⟨m, hm⟩ : ∃ m : Nat, (len : Int) - 1 - k = m := ⟨len - 1 - k, by omega⟩
      have hmn : m = vs.length - 1 - k := by have := HV.out; omega
      have hml : m < len := by omega
      obtain ⟨f, hf⟩ : ∃ f, vs[m]? = some f := ⟨_, List.getElem?_eq_getElem (by have := HV.out; omega)⟩
      obtain ⟨b, off, rfl, hb, hc1, hc2⟩ := (HR.out.below hnx).at_ hf
      have hbk : bkAt vs k = (m, f) := by unfold bkAt; rw [← hmn, hf]; rfl
      have HB := Lib.hid hbk
      clear hbk
      have hY1 := hY _ (m, f) wr hJs (by rw [upto_length]; exact hlt)
      obtain ⟨fn, tmps, assign, body, hy, hR⟩ := hY1
      dsimp only at hy
      rw [hm]
      have HM := Lib.hid hm
      clear hm hmn
      have h0m : (0 : Int) ≤ (m : Int) := by omega
      have hmz : (m : Int) < (len : Int) := by omega
      gi_wp2
      refine hR.mono ?_
      rintro e W3 (⟨rfl, hJ3, hk3⟩ | ⟨rfl, hJx3⟩)
      · gi_wp2
        go_roundw
        case rel => exact ⟨k + 1, by omega, by have := HM.out; simp only [Value.int.injEq, true_and]; go_num, by rw [upto_succ, HB.out]; exact hJ3, hnx.trans hk3⟩
        case measure => simp [intOf]
      · gi_wp2
        refine bodyPost_ret (results_none rfl _ _ _) rfl ?_
        exact ⟨⟨_, rfl⟩, .inr ⟨_, ⟨k + 1, by omega, by rw [upto_succ, HB.out]⟩, hJx3⟩⟩
    · obtain rfl : k = len := by omega
      have hm : (k : Int) - 1 - k = -1 := by omega
      rw [hm]
      gi_wp2
      go_end0
      exact ⟨⟨_, rfl⟩, .inl ⟨_, rfl, hJs⟩⟩

set_option maxHeartbeats 1000000 in
theorem backward_in (F : Fence) (n : Nat) (h5 : F.fn 194) (hro : F.round = none) (a : Option Addr) (len cap : Nat) (w : World) :
    CallsIn F n Tryz.prog 194 #[.slice a len cap] w fun e w' => e = .returned (.func (.func 206) #[] #[.pointer (some ⟨w.heap.size, 0, none⟩)]) ∧ w' = w.alloc (.cells #[.slice a len cap] 25) := by
  refine callsIn_of_wp Tryz.func194 rfl h5 ?_ hro
  simp only [Tryz.ntmps194, List.size_toArray, List.length_cons, List.length_nil, Nat.reduceAdd, Nat.reduceSub, Array.replicate_succ, Array.replicate_zero, List.push_toArray, List.append_toArray, List.nil_append, List.cons_append]
  gi_wp2
  go_ret
  exact ⟨rfl, rfl⟩

theorem backward_stops (F : Fence) (n : Nat) (h1 : F.fn 206) (hro : F.round = none) (hn : 1 ≤ n) (Bs n₀ : Nat) (A : Option Addr) (len cap : Nat) (vs : List Proofs.YtlkpbpecgdphaaaGreatDoor.F) (hlen : len ≤ 1000000) (w : World) (hBs : Bs < n₀) (hn₀ : n₀ ≤ w.heap.size)
    (hc : w.cell? ⟨Bs, 0, none⟩ = some (.slice A len cap)) (hR : RdF w n₀ A len cap vs) :
    SeqStopsK F n Tryz.prog 206 #[.pointer (some ⟨Bs, 0, none⟩)] encV (Below n₀) (fun ys => ys = upto (bkAt vs) len) (fun pre => ∃ k, k ≤ len ∧ pre = upto (bkAt vs) k) len w := fun l J Jx W hW _ _ hY h0 =>
  backward1_in F n h1 hro hn l Bs n₀ A len cap vs hlen hBs J Jx hY W ((hW.cell (p := ⟨Bs, 0, none⟩) (by show Bs < w.heap.size; omega)).trans hc) (hR.below (hW.mono hn₀)) h0

/-- A box of two strings. -/
def Box2 (W : World) (B : Nat) (a b : ByteArray) : Prop := W.heap[B]? = some (.cells #[.string a, .string b] 117 (0, 0))
theorem Box2.cells {W : World} {B : Nat} {a b : ByteArray} (h : Box2 W B a b) : W.cell? ⟨B, 0, none⟩ = some (.string a) ∧ W.cell? ⟨B, 1, none⟩ = some (.string b) := by
  constructor <;> simp [World.cell?, show W.heap[B]? = _ from h]
theorem box2_own (B : Nat) (a b : ByteArray) : Own (fun (_ : Unit) W => Box2 W B a b) := fun _ X Y row hs hg hrow =>
  (hg.block B (Array.getElem?_eq_some_iff.1 hs).1 (fun e' => by obtain ⟨o, ho, hc⟩ := hrow B e'.symm; rw [show X.heap[B]? = _ from hs] at ho; cases ho; cases hc)).trans hs
/-- No variable of that name among those that have come. -/
def NoneOf (pre : List (Nat × F)) (name : ByteArray) : Prop := ∀ x ∈ pre, x.2.1 ≠ name
theorem lastV_upto (vs : List F) (name : ByteArray) (h : NoneOf (upto (bkAt vs) vs.length) name) : lastV vs name = none := by
  unfold lastV
  rw [Option.map_eq_none_iff, List.find?_eq_none]
  intro v hv
  obtain ⟨i, hi, e⟩ := List.mem_iff_getElem.1 (List.mem_reverse.1 hv)
  have := h (bkAt vs (vs.length - 1 - i)) (by unfold upto; rw [List.mem_map]; exact ⟨vs.length - 1 - i, by simp; omega, rfl⟩)
  unfold bkAt at this
  rw [show vs.length - 1 - (vs.length - 1 - i) = i by omega, List.getElem?_eq_getElem hi, e] at this
  simpa using this
theorem lastV_hit (vs : List F) (name : ByteArray) (k : Nat) (hk : k < vs.length) (h : NoneOf (upto (bkAt vs) k) name) (hq : (bkAt vs k).2.1 = name) : lastV vs name = some (bkAt vs k).2.2 := by
  have e : ∀ j, j < vs.length → vs.reverse[j]? = some (bkAt vs j).2 := by
    intro j hj
    rw [List.getElem?_reverse hj]
    unfold bkAt
    rw [List.getElem?_eq_getElem (by omega)]
    rfl
  have hsplit : vs.reverse = vs.reverse.take k ++ (bkAt vs k).2 :: vs.reverse.drop (k + 1) := by
    have hk' : k < vs.reverse.length := by simpa using hk
    have h1 := (List.take_append_drop k vs.reverse).symm
    rw [List.drop_eq_getElem_cons hk'] at h1
    have h2 := e k hk
    rw [List.getElem?_eq_getElem hk'] at h2
    injection h2 with h2
    rw [h2] at h1
    exact h1
  unfold lastV
  rw [hsplit, List.find?_append]
  have hn : (vs.reverse.take k).find? (fun v => decide (v.1 = name)) = none := by
    rw [List.find?_eq_none]
    intro v hv
    obtain ⟨i, hi, e1⟩ := List.mem_iff_getElem.1 hv
    rw [List.length_take] at hi
    have h3 := e i (by omega)
    have h4 : (vs.reverse.take k)[i]? = some v := by rw [List.getElem?_eq_getElem (by rw [List.length_take]; exact hi), e1]
    rw [List.getElem?_take_of_lt (by omega), h3] at h4
    injection h4 with h4
    have := h (bkAt vs i) (by unfold upto; rw [List.mem_map]; exact ⟨i, by simp; omega, rfl⟩)
    rw [← h4]
    simpa using this
  rw [hn]
  simp [hq]

set_option maxRecDepth 100000 in
set_option maxHeartbeats 2000000 in
theorem last_in (F : Fence) (n : Nat) (h73 : F.fn 184) (h80 : F.fn 194) (h93 : F.fn 206) (hro : F.round = none) (hn : 3 ≤ n)
    (A : Option Addr) (len cap : Nat) (vs : List Proofs.YtlkpbpecgdphaaaGreatDoor.F) (name : ByteArray) (hlen : len ≤ 1000000) (w : World) (hR : RdF w w.heap.size A len cap vs) :
    CallsIn F n Tryz.prog 184 #[.slice A len cap, .string name] w fun e W' =>
      e = .returned (.tuple #[.string ((lastV vs name).getD ByteArray.empty), .bool (lastV vs name).isSome]) ∧ Below w.heap.size w W' := by
  have h1 : 1 ≤ n := by omega
  have HVL := Lib.hid hR.1
  refine callsIn_of_wp_marks Tryz.func184 rfl h73 ?_ hro
  simp only [Tryz.ntmps184, List.size_toArray, List.length_cons, List.length_nil, Nat.reduceAdd, Nat.reduceSub, Array.replicate_succ, Array.replicate_zero, List.push_toArray, List.append_toArray, List.nil_append, List.cons_append]
  gi_wp2_with (gi_at_call 194; refine (backward_in F (n - 1) h80 hro _ _ _ _).mono ?_; rintro e w' ⟨rfl, rfl⟩)
  have b0 := Boxed.new w 9 (.string name)
  have b1 := Boxed.new (w.alloc (.cells #[.string name] 9)) 9 (.string ⟨#[]⟩)
  have b2 := Boxed.new ((w.alloc (.cells #[.string name] 9)).alloc (.cells #[.string ⟨#[]⟩] 9)) 4 (.bool false)
  have b3 := Boxed.new (((w.alloc (.cells #[.string name] 9)).alloc (.cells #[.string ⟨#[]⟩] 9)).alloc (.cells #[.bool false] 4)) 25 (.slice A len cap)
  have k0 := ((b0.alloc (.cells #[.string ⟨#[]⟩] 9)).alloc (.cells #[.bool false] 4)).alloc (.cells #[.slice A len cap] 25)
  have k1 := (b1.alloc (.cells #[.bool false] 4)).alloc (.cells #[.slice A len cap] 25)
  have k2 := b2.alloc (.cells #[.slice A len cap] 25)
  have hB0 : Below w.heap.size w ((((w.alloc (.cells #[.string name] 9)).alloc (.cells #[.string ⟨#[]⟩] 9)).alloc (.cells #[.bool false] 4)).alloc (.cells #[.slice A len cap] 25)) := ((((Below.refl _ w).alloc (Nat.le_refl _) _).alloc (by simp) _).alloc (by simp; omega) _).alloc (by simp; omega) _
  have hs0 : ((((w.alloc (.cells #[.string name] 9)).alloc (.cells #[.string ⟨#[]⟩] 9)).alloc (.cells #[.bool false] 4)).alloc (.cells #[.slice A len cap] 25)).heap.size = w.heap.size + 1 + 1 + 1 + 1 := by simp
  simp only [World.size_alloc] at b0 b1 b2 b3 k0 k1 k2
  generalize ((((w.alloc (.cells #[.string name] 9)).alloc (.cells #[.string ⟨#[]⟩] 9)).alloc (.cells #[.bool false] 4)).alloc (.cells #[.slice A len cap] 25)) = W0 at *
  refine wpIn_rangeFunc_ownH hro h1 (gf := 206) (lb := #[.pointer (some ⟨w.heap.size + 1 + 1 + 1, 0, none⟩)]) rfl h93 (enters_of Tryz.func206 (by kernel_rfl) rfl)
    (backward_stops F (n - 1) h93 hro (by omega) (w.heap.size + 1 + 1 + 1) (w.heap.size + 1 + 1 + 1 + 1) A len cap vs hlen W0 (by omega) (by omega) b3.cell ((hR.below hB0).more (by omega))) belowK_t (belowK_b (by omega)) (Below.refl _ _) (fun _ => rfl)
    (fun pre W => (NoneOf pre name ∧ Boxed W w.heap.size 9 (.string name) ∧ Boxed W (w.heap.size + 1) 9 (.string ⟨#[]⟩) ∧ Boxed W (w.heap.size + 1 + 1) 4 (.bool false)) ∧ Below w.heap.size w W ∧ W0.heap.size ≤ W.heap.size)
    (fun c pre W => (c = .ret ∧ ∃ ini x, pre = ini ++ [x] ∧ NoneOf ini name ∧ x.2.1 = name ∧ Boxed W (w.heap.size + 1) 9 (.string x.2.2) ∧ Boxed W (w.heap.size + 1 + 1) 4 (.bool true)) ∧ Below w.heap.size w W)
    (OwnFrom.and (Own.from (fun s X Y row hs hg hr => ⟨hs.1, boxed_own _ _ (fun (_ : Unit) => _) () X Y row hs.2.1 hg hr, boxed_own _ _ (fun (_ : Unit) => _) () X Y row hs.2.2.1 hg hr, boxed_own _ _ (fun (_ : Unit) => _) () X Y row hs.2.2.2 hg hr⟩) _) (OwnFrom.and (ownFrom_below (Nat.le_refl _) (by omega)) (fun _ X Y row hs hg hr => Nat.le_trans hs hg.size)))
    (fun c => OwnFrom.and (Own.from (fun s X Y row hs hg hr => by obtain ⟨hc, ini, x, e1, e2, e3, e4, e5⟩ := hs; exact ⟨hc, ini, x, e1, e2, e3, boxed_own _ _ (fun (_ : Unit) => _) () X Y row e4 hg hr, boxed_own _ _ (fun (_ : Unit) => _) () X Y row e5 hg hr⟩) _) (ownFrom_below (Nat.le_refl _) (by omega)))
    ⟨⟨fun x hx => (by cases hx), k0, k1, k2⟩, hB0, Nat.le_refl _⟩
    (fun x a' W => ∃ Bx, Box2 W Bx x.2.1 x.2.2 ∧ W0.heap.size ≤ Bx ∧ a' = { tmps := #[.slice A len cap, .string name, undef, .pointer (some ⟨w.heap.size, 0, none⟩), .pointer (some ⟨w.heap.size + 1, 0, none⟩), .pointer (some ⟨w.heap.size + 1 + 1, 0, none⟩), undef, .pointer (some ⟨Bx, 0, none⟩), .slice A len cap, .func (.func 206) #[] #[.pointer (some ⟨w.heap.size + 1 + 1 + 1, 0, none⟩)], .int .i64 (x.1 : Int), .agg #[.string x.2.1, .string x.2.2], undef, undef, undef, undef, undef, undef], defers := [] })
    (fun x a' => fun _ X Y row hs hg hr => by obtain ⟨Bx, e1, e2, e3⟩ := hs; exact ⟨Bx, box2_own _ _ _ () X Y row e1 hg (fun r e => (hr r e).2), e2, e3⟩)
    ?assign ?body ?done ?stop
  case assign =>
    rintro l pre x W K hi hK
    unfold encV
    have HH := Lib.hid hi
    clear hi
    gi_wp2
    obtain ⟨⟨hno, c0, c1, c2⟩, hB, hsz⟩ := HH.out
    exact hK _ _ ((KeepsOthers.alloc _ _).from _) ((Below.refl _ W).alloc (by omega) _) ⟨⟨hno, c0.alloc _, c1.alloc _, c2.alloc _⟩, hB.alloc hB.size _, by simp; omega⟩ ⟨W.heap.size, World.alloc_heap_new W _, hsz, rfl⟩
  case body =>
    rintro l pre x a' W hl hr ⟨⟨hno, c0, c1, c2⟩, hB, hsz⟩ ⟨Bx, hbx, hbl, rfl⟩ hlt
    obtain ⟨d0, d1⟩ := hbx.cells
    have e0 := c0.cell
    have e1 := c1.cell
    have e2 := c2.cell
    have g1 := c1.frozen
    have g2 := c2.frozen
    have hne : w.heap.size + 1 + 1 ≠ w.heap.size + 1 := by omega
    have t2 := (c2.other hne (.string x.2.2)).cell
    have f2 := (c2.other hne (.string x.2.2)).frozen
    have HN := Lib.hid hno
    have HS := Lib.hid hsz
    clear hno hsz
    cases hq : (x.2.1.toList == name.toList) with
    | true =>
      have hx : x.2.1 = name := toList_inj (by simpa using hq)
      have HX := Lib.hid hx
      clear hx
      gi_wp2
      exact ⟨((KeepsOthers.setCell _ _ _).trans (KeepsOthers.setCell _ _ _)).from _, ⟨rfl, pre, x, rfl, HN.out, HX.out, (c1.set _).other (by omega) _, (c2.other hne _).set _⟩, (hB.setCell (p := ⟨w.heap.size + 1, 0, none⟩) (by show w.heap.size ≤ w.heap.size + 1; omega) _).setCell (p := ⟨w.heap.size + 1 + 1, 0, none⟩) (by show w.heap.size ≤ w.heap.size + 1 + 1; omega) _⟩
    | false =>
      have hx : x.2.1 ≠ name := fun e => by rw [e] at hq; simp at hq
      have HX := Lib.hid hx
      clear hx
      gi_wp2
      refine ⟨KeepsFrom.refl _ _, Below.refl _ _, ⟨fun p hp => ?_, c0, c1, c2⟩, hB, HS.out⟩
      rcases List.mem_append.1 hp with h | h
      · exact HN.out p h
      · obtain rfl : p = x := by simpa using h
        exact HX.out
  case done =>
    rintro D ys W hD rfl ⟨⟨hno, c0, c1, c2⟩, hB, hsz⟩ hK
    have hne : w.heap.size + 1 + 1 ≠ w.heap.size + 1 := by omega
    have e1 := c1.cell
    have e2 := c2.cell
    have g1 := c1.frozen
    have g2 := c2.frozen
    have t2 := (c2.other hne (.string ⟨#[]⟩)).cell
    have f2 := (c2.other hne (.string ⟨#[]⟩)).frozen
    have HN := Lib.hid hno
    clear hno
    gi_wp2
    have hK' := (KeepsOthers.setCell (W.setCell ⟨w.heap.size + 1, 0, none⟩ (.string ⟨#[]⟩)) ⟨w.heap.size + 1 + 1, 0, none⟩ (.bool false)).same D _ ((KeepsOthers.setCell W ⟨w.heap.size + 1, 0, none⟩ (.string ⟨#[]⟩)).same D _ hK rfl) rfl
    refine ⟨by simp, .inl ⟨_, _, rfl, run_takeDeferred hK', ?_⟩⟩
    have hr : ∀ r, some D = some r → ∃ o : Obj, ((W.setCell ⟨w.heap.size + 1, 0, none⟩ (.string ⟨#[]⟩)).setCell ⟨w.heap.size + 1 + 1, 0, none⟩ (.bool false)).heap[r]? = some o ∧ o.isCells = false := fun r e => by cases e; exact ⟨_, hK', rfl⟩
    have hc4 := cell_kept ((c1.set (.string ⟨#[]⟩)).other (B' := w.heap.size + 1 + 1) (by omega) (.bool false)).cell (grownBy_putObj' _ D (.deferred none)) hr
    have hc5 := cell_kept ((c2.other hne (.string ⟨#[]⟩)).set (.bool false)).cell (grownBy_putObj' _ D (.deferred none)) hr
    have hl : lastV vs name = none := lastV_upto vs name (by rw [HVL.out]; exact HN.out)
    refine ⟨.tuple #[.string ⟨#[]⟩, .bool false], ?_, by rw [hl]; rfl, ((hB.setCell (p := ⟨w.heap.size + 1, 0, none⟩) (by show w.heap.size ≤ w.heap.size + 1; omega) _).setCell (p := ⟨w.heap.size + 1 + 1, 0, none⟩) (by show w.heap.size ≤ w.heap.size + 1 + 1; omega) _).trans (belowK_b (w := w) (Nat.le_refl _) _ D _ _ (by omega) hK' rfl rfl)⟩
    simp [results, Tryz.f184, go_sem, hc4, hc5]
  case stop =>
    rintro D c pre W hD ⟨k, hk, rfl⟩ ⟨⟨rfl, ini, x, e1, e2, e3, e4, e5⟩, hB⟩ hK
    gi_wp2
    refine ⟨by simp, .inl ⟨_, _, rfl, run_takeDeferred hK, ?_⟩⟩
    have hr : ∀ r, some D = some r → ∃ o : Obj, W.heap[r]? = some o ∧ o.isCells = false := fun r e => by cases e; exact ⟨_, hK, rfl⟩
    have hc4 := cell_kept e4.cell (grownBy_putObj' _ D (.deferred none)) hr
    have hc5 := cell_kept e5.cell (grownBy_putObj' _ D (.deferred none)) hr
    obtain ⟨k', rfl⟩ : ∃ k', k = k' + 1 := by
      cases k with
      | zero => simp [upto] at e1
      | succ k' => exact ⟨k', rfl⟩
    rw [upto_succ] at e1
    obtain ⟨rfl, e6⟩ := List.append_inj' e1 rfl
    obtain rfl : bkAt vs k' = x := by simpa using e6
    have hl : lastV vs name = some (bkAt vs k').2.2 := lastV_hit vs name k' (by rw [HVL.out]; omega) e2 e3
    refine ⟨.tuple #[.string (bkAt vs k').2.2, .bool true], ?_, by rw [hl]; rfl, hB.trans (belowK_b (w := w) (Nat.le_refl _) W D _ _ (by omega) hK rfl rfl)⟩
    simp [results, Tryz.f184, go_sem, hc4, hc5]

theorem last_any (A : Option Addr) (len cap : Nat) (vs : List F) (name : ByteArray) (hlen : len ≤ 1000000) (w : World) (hR : RdF w w.heap.size A len cap vs) :
    Calls Tryz.prog 184 #[.slice A len cap, .string name] w fun e W' =>
      e = .returned (.tuple #[.string ((lastV vs name).getD ByteArray.empty), .bool (lastV vs name).isSome]) ∧ Below w.heap.size w W' :=
  (callsIn_wide (n := 3)).1 (last_in Fence.wide 3 trivial trivial trivial rfl (by omega) A len cap vs name hlen w hR)
end Go.Proofs.YtlkpbpecgdphaaaGreatDoor
