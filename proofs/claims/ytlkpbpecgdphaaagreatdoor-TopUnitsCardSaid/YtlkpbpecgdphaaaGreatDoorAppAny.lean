/-
  LAWS: append of a slice that reads as cells of any size (nil, empty or not) onto a row of the call's own: as a run, at a plain region's list, at a step of a region that draws.
-/
import Derived.Test.YtlkpbpecgdphaaaGreatDoorParse
import Derived.Laws.StructEq
import Derived.Deep.RegionHeld3
import Derived.Test.YtlkpbpecgdphaaaGreatDoorUp
import Derived.Deep.AppendLies
namespace Go.Proofs.YtlkpbpecgdphaaaGreatDoor
open Go.RowKit

set_option maxHeartbeats 2000000 in
set_option maxRecDepth 100000 in
/-- hammerpondref.SameTexts of two slices that read as the same texts. -/
theorem sameTexts_any (A A' : Option Addr) (n c c' : Nat) (l : List ByteArray) (w : World) (h : RdS w w.heap.size A n c l) (h' : RdS w w.heap.size A' n c' l) :
    Calls Tryz.prog 22 #[.slice A n c, .slice A' n c'] w fun e w' => e = .returned (.bool true) ∧ ∃ k, w' = w.drewN k := by
  have hm := h.2.2.1
  have hnc := h.2.1
  unfold maxLen at hm
  have HR := Lib.hid h
  have HR' := Lib.hid h'
  clear h h'
  go_enter Tryz.func22, Tryz.ntmps22
  go_wp2
  go_loopw [5] (fun i wr => SameRel w n i wr) (fun i _ => n - (intOf i).toNat)
  case atStart => exact ⟨0, Nat.zero_le _, rfl, 0, rfl⟩
  case round =>
    obtain ⟨k, hk, rfl, q, rfl⟩ := hrel
    by_cases hlt : k < n
    · obtain ⟨f, hf⟩ : ∃ f, l[k]? = some f := ⟨_, List.getElem?_eq_getElem (by rw [HR.out.1]; exact hlt)⟩
      obtain ⟨b, off, rfl, hbb, hc1⟩ := HR.out.at_ hf
      obtain ⟨b', off', rfl, hbb', hc1'⟩ := HR'.out.at_ hf
      clear hf
      have hiz : (k : Int) < (n : Int) := by omega
      go_wp2
      go_quiet (fail)
      go_wp2
      go_roundw
      case rel => exact ⟨k + 1, by omega, by go_num, by first | exact ⟨_, rfl⟩ | exact ⟨_, World.drewN_drewN _ _ _⟩⟩
      case measure => simp [intOf]; omega
    · obtain rfl : k = n := by omega
      go_wp2
      go_ret
      exact ⟨rfl, _, rfl⟩
theorem Sl.two {w : World} {v v' : Value} {l : List ByteArray} (h : Sl w v l) (h' : Sl w v' l) : Calls Tryz.prog 22 #[v, v'] w fun e w' => e = .returned (.bool true) ∧ ∃ k, w' = w.drewN k := by
  obtain ⟨A, c, rfl, hr⟩ := h
  obtain ⟨A', c', rfl, hr'⟩ := h'
  exact sameTexts_any A A' _ c c' l w hr hr'
theorem Sl.drewN {w : World} {v : Value} {l : List ByteArray} (h : Sl w v l) (k : Nat) : Sl (w.drewN k) v l := h
def SmRel (w : World) (n : Nat) (i : Value) (wr : World) : Prop := ∃ k : Nat, k ≤ n ∧ i = .int .i64 k ∧ ∃ q, wr = w.drewN q
theorem below_of_drewN {w w' : World} {q : Nat} (h : w' = w.drewN q) : Below w.heap.size w w' := by rw [h]; exact below_drewN w q

end Go.Proofs.YtlkpbpecgdphaaaGreatDoor
namespace Go.Proofs.YtlkpbpecgdphaaaGreatDoor
open Go.RowKit

theorem RdS.x {w : World} {B : Nat} {A : Option Addr} {n c : Nat} {l : List ByteArray} (h : RdS w B A n c l) : RdX w 1 A n (tcells l) :=
  ⟨by rw [tcells, List.length_map, h.1]; omega, tcells_one l, fun hn => by
    obtain ⟨b, off, e, _, hc⟩ := h.2.2.2 hn
    refine ⟨b, off, e, fun j u hu => ?_⟩
    rw [tcells, List.getElem?_map, Option.map_eq_some_iff] at hu
    obtain ⟨s, hs, rfl⟩ := hu
    exact hc j s hs⟩
theorem RdF.x {w : World} {B : Nat} {A : Option Addr} {n c : Nat} {l : List F} (h : RdF w B A n c l) : RdX w 2 A n (fcells l) :=
  ⟨by rw [fcells_len, h.1], fcells_one l, fun hn => by
    obtain ⟨b, off, e, _, hc⟩ := h.2.2.2 hn
    exact ⟨b, off, e, hc⟩⟩
theorem RdR.x {w : World} {B : Nat} {A : Option Addr} {n c : Nat} {R : List Row3} (h : RdR w B A n c R) (h1 : ∀ u ∈ rcells R, u.oneCell' = true) : RdX w 3 A n (rcells R) :=
  ⟨by rw [rcells_len, h.1], h1, fun hn => by
    obtain ⟨b, off, e, _, hc⟩ := h.2.2.2 hn
    exact ⟨b, off, e, hc⟩⟩
/-- Every cell of a rule that is read is one cell. -/
theorem MkRd.one {w : World} {m : Mk} {vv vr vp : Value} {R : List Row3} (h : MkRd w m vv vr vp R) : ∀ u ∈ rcells R, u.oneCell' = true := by
  intro u hu
  obtain ⟨j, hj, e⟩ := List.mem_iff_getElem.1 hu
  have hlen := rcells_len R
  have hi : j / 3 < R.length := by omega
  obtain ⟨x, hx⟩ : ∃ x, R[j / 3]? = some x := ⟨_, List.getElem?_eq_getElem hi⟩
  obtain ⟨y, hy⟩ : ∃ y, m.rules[j / 3]? = some y := ⟨_, List.getElem?_eq_getElem (by rw [← h.len]; exact hi)⟩
  obtain ⟨⟨_, _, e1, _⟩, ⟨_, _, e2, _⟩, ⟨_, _, e3, _⟩⟩ := h.each _ x y hx hy
  obtain ⟨h1, h2, h3⟩ := rcells_at hx
  have hu' : (rcells R)[j]? = some u := by rw [List.getElem?_eq_getElem hj, e]
  have h5 : j = j / 3 * 3 ∨ j = j / 3 * 3 + 1 ∨ j = j / 3 * 3 + 2 := by omega
  rcases h5 with h5 | h5 | h5
  · rw [h5, h1] at hu'; injection hu' with hu'; rw [← hu', e1]; rfl
  · rw [h5, h2] at hu'; injection hu' with hu'; rw [← hu', e2]; rfl
  · rw [h5, h3] at hu'; injection hu' with hu'; rw [← hu', e3]; rfl
end Go.Proofs.YtlkpbpecgdphaaaGreatDoor
