/-
  WORDS: units read. WALKS: hammerpondref.SameNumbers, SameUnits: of equal lists.
-/
import Derived.Test.YtlkpbpecgdphaaaUe
import Derived.Test.YtlkpbpecgdphaaaUd
namespace Go.Proofs.Ytlkpbpecgdphaaa
open Go.RowKit

theorem UnOwn.at_ {w : World} {B n c : Nat} {A : Option Addr} {U : List (List Nat)} {V : List Value} (h : UnOwn w B (.slice A n c) U V) {i : Nat} {u : List Nat} (hu : U[i]? = some u) : ∃ gv x, A = some ⟨gv, 0, none⟩ ∧ B ≤ gv ∧ gv < w.heap.size ∧ V[i]? = some x ∧ w.cell? ⟨gv, i, none⟩ = some x ∧ w.ownsRow B tI 1 x u.length (ints u) := by
  have hi : i < U.length := (List.getElem?_eq_some_iff.1 hu).1
  obtain ⟨gv, cv, e, hb, hlt⟩ := h.row.form (by omega)
  injection e with e1 e2 e3
  subst e1 e2 e3
  obtain ⟨x, hx⟩ : ∃ x, V[i]? = some x := ⟨_, List.getElem?_eq_getElem (by rw [h.len]; exact hi)⟩
  exact ⟨gv, x, rfl, hb, hlt, hx, by rw [h.row.cellAt i (by omega)]; exact hx, h.each i x u hx hu⟩
theorem ints_own {w : World} {B : Nat} {x : Value} {u : List Nat} (h : w.ownsRow B tI 1 x u.length (ints u)) {k i : Nat} (hk : u[k]? = some i) : ∃ g c, x = .slice (some ⟨g, 0, none⟩) u.length c ∧ B ≤ g ∧ g < w.heap.size ∧ w.cell? ⟨g, k, none⟩ = some (.int .i64 (i : Int)) := by
  have hl : k < u.length := (List.getElem?_eq_some_iff.1 hk).1
  obtain ⟨g, c, rfl, hb, hlt⟩ := h.form (by omega)
  exact ⟨g, c, rfl, hb, hlt, by rw [h.cellAt k (by omega)]; simp [ints, hk]⟩
theorem UnOwn.cell_ {w : World} {B n c gv gi ci : Nat} {U : List (List Nat)} {V : List Value} (h : UnOwn w B (.slice (some ⟨gv, 0, none⟩) n c) U V) {i : Nat} {u : List Nat} (hu : U[i]? = some u) (hV : V[i]? = some (.slice (some ⟨gi, 0, none⟩) u.length ci)) : w.cell? ⟨gv, i, none⟩ = some (.slice (some ⟨gi, 0, none⟩) u.length ci) ∧ ∀ (k x : Nat), u[k]? = some x → w.cell? ⟨gi, k, none⟩ = some (.int .i64 (x : Int)) := by
  obtain ⟨gv', x, e, _, _, hx, hc, ho⟩ := h.at_ hu
  injection e with e
  injection e with e _
  subst e
  rw [hV] at hx
  injection hx with hx
  subst hx
  refine ⟨hc, fun k y hk => ?_⟩
  obtain ⟨g, c2, e, _, _, h2⟩ := ints_own ho hk
  injection e with e
  injection e with e
  injection e with e
  subst e
  exact h2
/-- The unit (from 1) that a group is in, or 0. -/
def inV (L : List (List Nat)) (x : Nat) : Int := match L.findIdx? (fun u => u.contains x) with
  | some j => (j : Int) + 1
  | none => 0
def inL (L : List (List Nat)) (n : Nat) : List Int := (List.range n).map (inV L)
theorem inL_len (L : List (List Nat)) (n : Nat) : (inL L n).length = n := by simp [inL]
theorem inL_v {L : List (List Nat)} {n x : Nat} (h : x < n) : clV (inL L n) x = inV L x := by rw [clV_lt (by rw [inL_len]; exact h)]; simp [inL]
theorem inV_none {L : List (List Nat)} {x : Nat} (h : ∀ u ∈ L, x ∉ u) : inV L x = 0 := by
  have : L.findIdx? (fun u => u.contains x) = none := List.findIdx?_eq_none_iff.2 fun u hu => by simpa using h u hu
  unfold inV; rw [this]
theorem inV_pos {L : List (List Nat)} {x : Nat} (h : ∃ u ∈ L, x ∈ u) : 0 < inV L x := by
  unfold inV
  cases hf : L.findIdx? (fun u => u.contains x) with
  | none =>
    obtain ⟨u, hu, hx⟩ := h
    have := List.findIdx?_eq_none_iff.1 hf u hu
    simp [hx] at this
  | some j => show (0 : Int) < (j : Int) + 1; omega
theorem inV_congr {L : List (List Nat)} {x y : Nat} (h : ∀ u ∈ L, (x ∈ u ↔ y ∈ u)) : inV L x = inV L y := by
  have hc : ∀ (L : List (List Nat)), (∀ u ∈ L, (x ∈ u ↔ y ∈ u)) → L.findIdx? (fun u => u.contains x) = L.findIdx? (fun u => u.contains y) := fun L => by
    induction L with
    | nil => intro _; rfl
    | cons u t ih =>
      intro h
      have e : u.contains x = u.contains y := by rw [Bool.eq_iff_iff]; simpa using h u (List.mem_cons_self ..)
      rw [List.findIdx?_cons, List.findIdx?_cons, e, ih fun u hu => h u (List.mem_cons_of_mem _ hu)]
  unfold inV
  rw [hc L h]
/-- One more of a unit is in it. -/
theorem inL_more {L : List (List Nat)} {u : List Nat} {n x : Nat} (hx : x < n) (h1 : ∀ v ∈ L, x ∉ v) : inL (L ++ [u ++ [x]]) n = (inL (L ++ [u]) n).set x ((L.length : Int) + 1) ∨ x ∈ u := by
  by_cases hu : x ∈ u
  · exact .inr hu
  refine .inl (List.ext_getElem? fun j => ?_)
  rcases Nat.lt_or_ge j n with hj | hj
  · have e1 : (inL (L ++ [u ++ [x]]) n)[j]? = some (inV (L ++ [u ++ [x]]) j) := by simp [inL, hj]
    rw [e1]
    by_cases e : x = j
    · subst e
      rw [List.getElem?_set_self (by rw [inL_len]; exact hx)]
      have hf : (L ++ [u ++ [x]]).findIdx? (fun v => v.contains x) = some L.length := by
        rw [List.findIdx?_append, List.findIdx?_eq_none_iff.2 fun v hv => by simpa using h1 v hv]
        simp [List.findIdx?_cons]
      unfold inV; rw [hf]
    · rw [List.getElem?_set_ne e]
      have e2 : (inL (L ++ [u]) n)[j]? = some (inV (L ++ [u]) j) := by simp [inL, hj]
      rw [e2]
      have hc : (L ++ [u ++ [x]]).findIdx? (fun v => v.contains j) = (L ++ [u]).findIdx? (fun v => v.contains j) := by
        rw [List.findIdx?_append, List.findIdx?_append, List.findIdx?_cons, List.findIdx?_cons]
        have : (u ++ [x]).contains j = u.contains j := by rw [Bool.eq_iff_iff]; simp; intro e'; exact absurd e'.symm e
        rw [this]
      unfold inV; rw [hc]
  · rw [List.getElem?_eq_none (by rw [inL_len]; exact hj), List.getElem?_eq_none (by rw [List.length_set, inL_len]; exact hj)]
theorem inL_full {U : List (List Nat)} {i : Nat} {u : List Nat} (h : U[i]? = some u) : U.take i ++ [u] = U.take (i + 1) := by rw [List.take_add_one, h]; rfl
theorem inL_nil (L : List (List Nat)) (n : Nat) : inL (L ++ [[]]) n = inL L n := by
  refine List.map_congr_left fun x _ => ?_
  have : (L ++ [([] : List Nat)]).findIdx? (fun v => v.contains x) = L.findIdx? (fun v => v.contains x) := by
    rw [List.findIdx?_append, List.findIdx?_cons]
    cases L.findIdx? (fun v => v.contains x) <;> rfl
  unfold inV; rw [this]
theorem inL_zero (n : Nat) : inL [] n = List.replicate n 0 := by
  refine List.ext_getElem? fun j => ?_
  simp only [inL, List.getElem?_map, List.getElem?_replicate]
  split
  · rename_i h; simp [h, inV]
  · rename_i h; simp [List.getElem?_eq_none (show (List.range n).length ≤ j by simp; omega)]
end Go.Proofs.Ytlkpbpecgdphaaa
namespace Go.Proofs.Ytlkpbpecgdphaaa
open Go.RowKit

theorem RdX.lowU {w w' : World} {size m : Nat} {A : Option Addr} {xs : List Value} (h : RdX w size A m xs) (hb : Below w.heap.size w w') : RdX w' size A m xs :=
  ⟨h.1, h.2.1, fun hm => by
    obtain ⟨b, off, e, hc⟩ := h.2.2 hm
    exact ⟨b, off, e, fun j v hv => (hb.cell (p := ⟨b, off + j, none⟩) (cell_block_lt (hc j v hv))).trans (hc j v hv)⟩⟩
/-- A list of units, as it reads. -/
structure UnRd (w : World) (A : Option Addr) (n : Nat) (U : List (List Nat)) : Prop where
  len : U.length = n
  cap : n ≤ maxLen
  each : ∀ (i : Nat) (u : List Nat), U[i]? = some u → ∃ b off A' c', A = some ⟨b, off, none⟩ ∧ w.cell? ⟨b, off + i, none⟩ = some (.slice A' u.length c') ∧ RdX w 1 A' u.length (ints u) ∧ u.length ≤ maxLen
theorem UnRd.low {w w' : World} {A : Option Addr} {n : Nat} {U : List (List Nat)} (h : UnRd w A n U) (hb : Below w.heap.size w w') : UnRd w' A n U :=
  ⟨h.len, h.cap, fun i u hu => by
    obtain ⟨b, off, A', c', e, hc, hr, hl⟩ := h.each i u hu
    exact ⟨b, off, A', c', e, (hb.cell (p := ⟨b, off + i, none⟩) (cell_block_lt hc)).trans hc, hr.lowU hb, hl⟩⟩
theorem row_cap {w : World} {B n s : Nat} {e : TypeId} {v : Value} {xs : List Value} (h : w.ownsRow B e s v n xs) : n ≤ maxLen := by
  rcases h.2 with ⟨_, h⟩ | ⟨g, cap, cur, _, _, _, h1, h2, _⟩
  · rw [h]; exact Nat.zero_le _
  · omega
theorem UnOwn.rd {w : World} {B n c : Nat} {A : Option Addr} {U : List (List Nat)} {V : List Value} (h : UnOwn w B (.slice A n c) U V) : UnRd w A U.length U :=
  ⟨rfl, row_cap h.row, fun i u hu => by
    obtain ⟨gv, x, e, _, _, hx, hc, ho⟩ := h.at_ hu
    obtain ⟨A', c', rfl⟩ := own_shape ho
    exact ⟨gv, 0, A', c', e, by rw [Nat.zero_add]; exact hc, rdx_own ho, row_cap ho⟩⟩
theorem ints_at2 {w wr : World} {A : Option Addr} {m : Nat} {u : List Nat} (h : RdX w 1 A m (ints u)) (hb : Below w.heap.size w wr) {k i : Nat} (hk : u[k]? = some i) : ∃ b off, A = some ⟨b, off, none⟩ ∧ wr.cell? ⟨b, off + k, none⟩ = some (.int .i64 (i : Int)) := ints_at h hb hk
def DrRel (w : World) (n : Nat) (i : Value) (wr : World) : Prop := ∃ k : Nat, k ≤ n ∧ i = .int .i64 k ∧ Below w.heap.size w wr
set_option maxRecDepth 100000 in
set_option maxHeartbeats 2000000 in
theorem sameNums_any (A A' : Option Addr) (n c c' : Nat) (u : List Nat) (w : World) (h : RdX w 1 A n (ints u)) (h' : RdX w 1 A' n (ints u)) (hn : n ≤ maxLen) :
    Calls Try.prog 31 #[.slice A n c, .slice A' n c'] w fun e w' => e = .returned (.bool true) ∧ Below w.heap.size w w' := by
  have HL := Lib.hid (show u.length = n by have := h.1; simpa [ints] using this)
  have HR := Lib.hid h
  have HR' := Lib.hid h'
  unfold maxLen at hn
  clear h h'
  go_enter Try.func31, Try.ntmps31
  go_wp2
  go_loopw [5] (fun i wr => DrRel w n i wr) (fun i _ => n - (intOf i).toNat)
  case atStart => exact ⟨0, Nat.zero_le _, by go_num, Below.refl _ _⟩
  case round =>
    obtain ⟨k, hk, rfl, hb⟩ := hrel
    have HB := Lib.hid hb
    clear hb
    by_cases hlt : k < n
    · obtain ⟨x, hx⟩ : ∃ x, u[k]? = some x := ⟨_, List.getElem?_eq_getElem (by rw [HL.out]; exact hlt)⟩
      obtain ⟨b, off, rfl, c1⟩ := ints_at HR.out HB.out hx
      obtain ⟨b', off', rfl, c2⟩ := ints_at HR'.out HB.out hx
      have hkz : (k : Int) < (n : Int) := by omega
      clear hx
      go_wp2
      go_quiet (fail)
      go_wp2
      go_roundw
      case rel => exact ⟨k + 1, by omega, by go_num, by first | exact HB.out.trans ((below_drews _ _).mono HB.out.size) | exact HB.out⟩
      case measure => simp [intOf]; omega
    · obtain rfl : k = n := by omega
      go_wp2
      go_ret
      exact ⟨rfl, HB.out⟩
set_option maxRecDepth 100000 in
set_option maxHeartbeats 2000000 in
theorem sameUnits_any (A A' : Option Addr) (n c c' : Nat) (U : List (List Nat)) (w : World) (h : UnRd w A n U) (h' : UnRd w A' n U) :
    Calls Try.prog 14 #[.slice A n c, .slice A' n c'] w fun e w' => e = .returned (.bool true) ∧ Below w.heap.size w w' := by
  have HR := Lib.hid h
  have HR' := Lib.hid h'
  have HL := Lib.hid h.len
  have hn := h.cap
  unfold maxLen at hn
  clear h h'
  go_enter Try.func14, Try.ntmps14
  go_wp2
  go_loopw [5] (fun i wr => DrRel w n i wr) (fun i _ => n - (intOf i).toNat)
  case atStart => exact ⟨0, Nat.zero_le _, by go_num, Below.refl _ _⟩
  case round =>
    obtain ⟨k, hk, rfl, hb⟩ := hrel
    have HB := Lib.hid hb
    clear hb
    by_cases hlt : k < n
    · obtain ⟨u, hu⟩ : ∃ u, U[k]? = some u := ⟨_, List.getElem?_eq_getElem (by rw [HL.out]; exact hlt)⟩
      obtain ⟨b, off, Ai, ci, rfl, c1, r1, l1⟩ := (HR.out.low HB.out).each k u hu
      obtain ⟨b', off', Aj, cj, rfl, c2, r2, _⟩ := (HR'.out.low HB.out).each k u hu
      have hkz : (k : Int) < (n : Int) := by omega
      have HC := Lib.hid (sameNums_any Ai Aj u.length ci cj u wr.drew (r1.lowU (Below.refl _ _).drew) (r2.lowU (Below.refl _ _).drew) l1)
      have d1 : wr.drew.cell? ⟨b, off + k, none⟩ = some (.slice Ai u.length ci) := c1
      have d2 : wr.drew.cell? ⟨b', off' + k, none⟩ = some (.slice Aj u.length cj) := c2
      have hl1 : b < wr.drew.heap.size := cell_block_lt d1
      have hl2 : b' < wr.drew.heap.size := cell_block_lt d2
      clear hu r1 r2
      go_wp2_with fail
      go_region_held3 (fun w' => w'.cell? ⟨b, off + k, none⟩ = some (.slice Ai u.length ci) ∧ w'.cell? ⟨b', off' + k, none⟩ = some (.slice Aj u.length cj))
        (first | exact ⟨e1, e2⟩ | exact ⟨d1, d2⟩ | exact ⟨c1, c2⟩)
        (first
          | (go_at_call 31; refine HC.out.mono ?_; rintro e w6 ⟨rfl, hb6⟩; have e1 := (hb6.cell (p := ⟨b, off + k, none⟩) hl1).trans d1; have e2 := (hb6.cell (p := ⟨b', off' + k, none⟩) hl2).trans d2; have HB6 := Lib.hid (HB.out.drew.trans (hb6.mono HB.out.drew.size)); clear hb6))
      go_wp2
      go_roundw
      case rel => exact ⟨k + 1, by omega, by go_num, HB6.out⟩
      case measure => simp [intOf]; omega
    · obtain rfl : k = n := by omega
      go_wp2
      go_ret
      exact ⟨rfl, HB.out⟩
end Go.Proofs.Ytlkpbpecgdphaaa
