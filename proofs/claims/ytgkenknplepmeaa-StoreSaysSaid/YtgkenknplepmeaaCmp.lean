/-
  WALKS: strings.Compare, row.Apply's function literal: what each gives, for every two changes; slices.insertionSortCmpFunc of changes.
-/
import Derived.Test.YtgkenknplepmeaaSo
import Derived.Test.YtgkenknplepmeaaIns
import Derived.Lib.Bytealg
namespace Go.Proofs.Ytgkenknplepmeaa
open Go.RowKit Go.Sort Go.Shelf

def cmpI (a b : ByteArray) : Int := Lib.compareBytes a.data.toList b.data.toList
def cfC (x y : Ch) : Int := cmpI x.key y.key
def encC (c : Ch) : List Value := [.string c.key, .string c.val, .bool c.gone]
theorem compare_less : ∀ a b : List UInt8, decide (Lib.compareBytes a b < 0) = Op.bytesLess a b
  | [], [] => rfl
  | [], _ :: _ => rfl
  | _ :: _, [] => rfl
  | a :: x, b :: y => by
    unfold Lib.compareBytes Op.bytesLess
    by_cases h : a < b
    · simp [h]
    · by_cases k : b < a
      · have hne : ¬ a = b := by rintro rfl; exact h k
        simp [h, k, hne]
      · have e : a = b := by
          rw [UInt8.lt_iff_toNat_lt] at h k
          exact UInt8.toNat_inj.1 (by omega)
        subst e
        simp only [h, if_false, decide_false, Bool.false_or, beq_self_eq_true, Bool.true_and]
        exact compare_less x y
theorem ltOf_cfC (x y : Ch) : ltOf cfC x y = ltC x y := by
  unfold ltOf cfC cmpI ltC lt
  rw [compare_less, ByteArray.toList_eq, ByteArray.toList_eq]
theorem ltOf_eq : ltOf cfC = ltC := funext fun x => funext fun y => ltOf_cfC x y
theorem encC_len (x : Ch) : (encC x).length = 3 := rfl
theorem encC_one (x : Ch) : ∀ v ∈ encC x, v.oneCell' = true := by
  intro v hv
  simp [encC] at hv
  rcases hv with rfl | rfl | rfl <;> rfl
set_option maxHeartbeats 1000000 in
set_option maxRecDepth 100000 in
theorem compareString_any (a b : ByteArray) (w : World) : Calls Try.prog 94 #[.string a, .string b] w fun e w' => e = .returned (.int .i64 (cmpI a b)) ∧ w' = w := by
  go_enter Try.func94, Try.ntmps94
  go_wp2
  rw [run_callFunc_extern Try.func112 (by kernel_rfl) (by kernel_rfl) (by kernel_rfl) (e := Extern.BytealgCompare.compare) (by kernel_rfl), Lib.run_compareString]
  simp only [Result.andThen]
  rw [Oper.upon_value]
  go_wp2
  go_ret
  exact ⟨rfl, rfl⟩
set_option maxHeartbeats 1000000 in
set_option maxRecDepth 100000 in
theorem compare_any (a b : ByteArray) (w : World) : Calls Try.prog 74 #[.string a, .string b] w fun e w' => e = .returned (.int .i64 (cmpI a b)) ∧ w' = w := by
  go_enter Try.func74, Try.ntmps74
  go_wp2_with (go_at_call 94; refine (compareString_any _ _ _).mono ?_; rintro e w' ⟨rfl, rfl⟩)
  go_ret
  exact ⟨rfl, rfl⟩
set_option maxHeartbeats 1000000 in
set_option maxRecDepth 100000 in
theorem literal_any (x y : Ch) (W : World) : Calls Try.prog 73 #[.agg (encC x).toArray, .agg (encC y).toArray] W fun e w' => e = .returned (.int .i64 (cfC x y)) ∧ ∃ q os', w' = grow (W.drewN q) os' := by
  obtain ⟨k1, v1, g1⟩ := x
  obtain ⟨k2, v2, g2⟩ := y
  unfold cfC encC
  have HC := Lib.hid (fun W => compare_any k1 k2 W)
  simp only [List.toArray] 
  generalize cmpI k1 k2 = r at *
  go_enter Try.func73, Try.ntmps73
  go_wp2_with (go_at_call 74; refine (HC.out _).mono ?_; rintro e w' ⟨rfl, rfl⟩)
  go_ret
  exact ⟨rfl, 0, _, by rw [alloc_eq_grow, alloc_eq_grow, grow_grow]; rfl⟩
theorem literal_lays (blk off size : Nat) (w : World) : CmpLays Try.prog 73 #[] encC 3 cfC blk off size w := fun _ _ _ _ x y => literal_any x y _
/-- A world of the sort's. -/
abbrev SoW (w : World) (blk off m : Nat) (d : Array Ch) (os : Array Obj) : World := sortWorldK encC 3 w blk off m d os
theorem lit_enters : ∀ args w, (callFunc 73 args).run Try.prog w = .ok (.enter 73 args) w := enters_of Try.func73 (by kernel_rfl) rfl
theorem insertion_any (blk off cap a b : Nat) (d : Array Ch) (w : World) (hH : HoldsK encC 3 w blk off d) (hblk : blk < w.heap.size) (hab : a ≤ b) (hb : b ≤ d.size) (hsz : d.size < 4611686018427387904) :
    Calls Try.prog 110 #[.slice (some ⟨blk, off, none⟩) d.size cap, .int .i64 a, .int .i64 b, .func (.func 73) #[] #[]] w fun e w' =>
      e = .returned (.tuple #[]) ∧ ∃ n d' os, w' = SoW w blk off n d' os ∧ Turns a b d d' ∧ SO (sg d a (b - a)) (sg d' a (b - a)) := by
  have h := AnyQ.insertionSortCmpFunc Try.insC 3 Try.isAgg54 Try.sizeOf54 encC encC_len encC_one cfC 73 #[] blk off cap a b d w lit_enters (literal_lays blk off d.size w) hH hblk hab hb hsz
  change Calls Try.prog 110 _ _ _ at h
  refine h.mono ?_
  rintro e w' ⟨rfl, n, os, rfl⟩
  rw [ltOf_eq]
  have := ins_sorts a b d hb hab
  exact ⟨rfl, n, _, os, rfl, this.1, this.2⟩
end Go.Proofs.Ytgkenknplepmeaa
