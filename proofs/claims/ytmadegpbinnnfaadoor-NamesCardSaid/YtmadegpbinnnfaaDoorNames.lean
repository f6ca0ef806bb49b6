/-
  THE WALK OF hammerpondlaw.Names: the call returns true, and nothing that was there has turned.
-/
import Derived.Test.YtmadegpbinnnfaaDoorSame
import Derived.Deep.LoopGhost
namespace Go.Proofs.YtmadegpbinnnfaaDoor
open Go.RowKit

def NumRel (w : World) (n : Nat) (i : Value) (wr : World) : Prop := ∃ k : Nat, k ≤ n ∧ i = .int .i64 k ∧ ∃ q, wr = w.drewN q

set_option maxHeartbeats 1000000 in
/-- hammerpondref.SameNumbers of two rows of the same numbers. -/
theorem sameNumbers_any (b b' : Nat) (n c c' : Nat) (z : Nat → Int) (w : World) (hn : n ≤ 1000000)
    (h : ∀ j, j < n → w.cell? ⟨b, j, none⟩ = some (.int .i64 (z j))) (h' : ∀ j, j < n → w.cell? ⟨b', j, none⟩ = some (.int .i64 (z j))) :
    Calls Tryd.prog 8 #[.slice (some ⟨b, 0, none⟩) n c, .slice (some ⟨b', 0, none⟩) n c'] w fun e w' => e = .returned (.bool true) ∧ ∃ k, w' = w.drewN k := by
  have HR := Lib.hid h
  have HR' := Lib.hid h'
  clear h h'
  go_enter Tryd.func8, Tryd.ntmps8
  go_wp2
  go_loopw [5] (fun i wr => NumRel w n i wr) (fun i _ => n - (intOf i).toNat)
  case atStart => exact ⟨0, Nat.zero_le _, rfl, 0, rfl⟩
  case round =>
    obtain ⟨k, hk, rfl, q, rfl⟩ := hrel
    by_cases hlt : k < n
    · have hc := HR.out k hlt
      have hc' := HR'.out k hlt
      have hiz : (k : Int) < (n : Int) := by omega
      generalize z k = zk at hc hc'
      go_wp2
      go_quiet (fail)
      go_wp2
      go_roundw
      case rel => exact ⟨k + 1, by omega, by go_num, by first | exact ⟨_, rfl⟩ | exact ⟨_, World.drewN_drewN _ _ _⟩⟩
      case measure => simp [intOf]; omega
    · obtain rfl : k = n := by omega
      go_wp2
      go_ret
      exact ⟨rfl, _, rfl⟩

set_option maxHeartbeats 1000000 in
set_option maxRecDepth 100000 in
/-- (api.Errno).Error of 11. -/
theorem error11 (w : World) : Calls Tryd.prog 9 #[.int .i64 11] w fun e w' => e = .returned (.string ⟨#[104, 97, 109, 109, 101, 114, 112, 111, 110, 100, 58, 32, 101, 114, 114, 111, 114, 32, 49, 49]⟩) ∧ w = w' := by
  go_enter Tryd.func9, Tryd.ntmps9
  go_wp2
  go_ret
  exact ⟨rfl, rfl⟩

def theNums : List Int := [8, 20, 600, 10, 6, 2, 3, 3, 28, 5, 10, 20, 300, 40, 340, 120, 80, 60]
theorem nums_at (cs : Array Value) (h : cs.toList = theNums.map (Value.int .i64)) (j : Nat) (hj : j < 18) : cs[j]? = some (.int .i64 (theNums.getD j 0)) := by
  rw [← Array.getElem?_toList, h, List.getElem?_map, List.getElem?_eq_getElem (show j < theNums.length from hj), List.getD_eq_getElem?_getD, List.getElem?_eq_getElem (show j < theNums.length from hj)]
  rfl
theorem errs_at (cs : Array Value) (h : cs.toList = (List.range 11).map fun k => .iface 23 (.int .i64 ((k : Int) + 1))) (j : Nat) (hj : j < 11) : cs[j]? = some (.iface 23 (.int .i64 ((j : Int) + 1))) := by
  rw [← Array.getElem?_toList, h, List.getElem?_map, List.getElem?_range hj]
  rfl

set_option maxHeartbeats 1000000 in
set_option maxRecDepth 100000 in
theorem names_any (w : World) : Calls Tryd.prog 3 #[] w fun e w' => e = .returned (.bool true) ∧ Below w.heap.size w w' := by
  go_enter Tryd.func3, Tryd.ntmps3
  go_wp2
  generalize hW : ((w.alloc _).alloc _).alloc _ = W
  have he : ∀ k : Nat, k < 11 → W.cell? ⟨w.heap.size + 1 + 1, k, none⟩ = some (.iface 23 (.int .i64 ((k : Int) + 1))) := by
    intro k hk
    rw [← hW, World.cell?_alloc_at _ _ _ _ (by simp)]
    exact errs_at _ rfl k hk
  have h1 : ∀ j, j < 18 → W.cell? ⟨w.heap.size, j, none⟩ = some (.int .i64 (theNums.getD j 0)) := by
    intro j hj
    rw [← hW, World.cell?_alloc_past _ _ _ (by simp; omega), World.cell?_alloc_past _ _ _ (by simp), World.cell?_alloc_at _ _ _ _ rfl]
    exact nums_at _ rfl j hj
  have h2 : ∀ j, j < 18 → W.cell? ⟨w.heap.size + 1, j, none⟩ = some (.int .i64 (theNums.getD j 0)) := by
    intro j hj
    rw [← hW, World.cell?_alloc_past _ _ _ (by simp), World.cell?_alloc_at _ _ _ _ (by simp)]
    exact nums_at _ rfl j hj
  have hb : Below w.heap.size w W := by
    rw [← hW]
    exact (((Below.refl _ _).alloc (Nat.le_refl _) _).alloc (by simp) _).alloc (by simp; omega) _
  clear hW
  have HE := Lib.hid he
  have H1 := Lib.hid h1
  have H2 := Lib.hid h2
  clear he h1 h2
  go_loop [4] (fun i => ∃ k : Nat, k ≤ 11 ∧ i = .int .i64 k) (fun i => 11 - (intOf i).toNat)
  case atStart => exact ⟨0, by omega, rfl⟩
  case round =>
    obtain ⟨k, hk, rfl⟩ := hrel
    by_cases hlt : k < 11
    · have hc := HE.out k hlt
      have hiz : (k : Int) < 11 := by omega
      go_wp2_with fail
      refine (same_err _ (by omega) _).mono ?_
      rintro e w1 ⟨rfl, rfl⟩
      go_wp2
      go_round
      case rel => exact ⟨k + 1, by omega, by go_num⟩
      case measure => simp [intOf]; omega
    · obtain rfl : k = 11 := by omega
      go_wp2_with fail
      refine (sameNumbers_any _ _ 18 18 18 (fun j => theNums.getD j 0) W (by omega) H1.out H2.out).mono ?_
      rintro e w1 ⟨rfl, q, rfl⟩
      go_wp2_with fail
      refine (error11 _).mono ?_
      rintro e w1 ⟨rfl, rfl⟩
      go_wp2
      go_ret
      exact ⟨rfl, ⟨hb.os, hb.tape, hb.output, hb.size, hb.block⟩⟩
end Go.Proofs.YtmadegpbinnnfaaDoor
