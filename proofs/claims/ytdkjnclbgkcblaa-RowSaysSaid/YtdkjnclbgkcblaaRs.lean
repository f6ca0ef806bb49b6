/-
  WORDS AND WALKS: row.File, row.Made, hammerpondlaw.rows; what RowSays carries along.
-/
import Derived.Test.YtdkjnclbgkcblaaApd
import Derived.Test.YtdkjnclbgkcblaaRwE
import Derived.Test.YtdkjnclbgkcblaaSame
namespace Go.Proofs.Ytdkjnclbgkcblaa
open Go.RowKit Go.Sort

set_option maxHeartbeats 1000000 in
set_option maxRecDepth 100000 in
theorem file_a (w : World) : Calls Try.prog 65 #[.string ⟨#[97]⟩] w fun e w' => e = .returned (.string ⟨#[102, 47, 97]⟩) ∧ w = w' := by
  have t1 : Op.stringOp .add ⟨#[102, 47]⟩ ⟨#[97]⟩ = pure (.string ⟨#[102, 47, 97]⟩) := by rfl
  go_enter Try.func65, Try.ntmps65
  go_wp2
  go_ret
  exact ⟨rfl, rfl⟩
set_option maxHeartbeats 1000000 in
set_option maxRecDepth 100000 in
theorem made_a (w : World) : Calls Try.prog 66 #[.string ⟨#[97]⟩] w fun e w' => e = .returned (.string ⟨#[100, 47, 97]⟩) ∧ w = w' := by
  have t1 : Op.stringOp .add ⟨#[100, 47]⟩ ⟨#[97]⟩ = pure (.string ⟨#[100, 47, 97]⟩) := by rfl
  go_enter Try.func66, Try.ntmps66
  go_wp2
  go_ret
  exact ⟨rfl, rfl⟩
theorem enc_fax : encV ⟨⟨#[102, 47, 97]⟩, ⟨#[120]⟩, false⟩ = .tuple #[.string ⟨#[0, 3, 102, 47, 97, 120]⟩, .nilIface] := by
  have h : ckR ⟨⟨#[102, 47, 97]⟩, ⟨#[120]⟩, false⟩ = 0 := by
    unfold ckR keyB preB
    simp only [ByteArray.toList_eq]
    decide +kernel
  unfold encV
  rw [if_pos h]
  have e : encR ⟨⟨#[102, 47, 97]⟩, ⟨#[120]⟩, false⟩ = ⟨#[0, 3, 102, 47, 97, 120]⟩ := list_eq (by rw [encR_list]; rfl)
  rw [e]
set_option maxHeartbeats 1000000 in
set_option maxRecDepth 100000 in
theorem rows_any (w : World) : Calls Try.prog 28 #[] w fun e w' => e = .returned (.bool true) ∧ Below w.heap.size w w' := by
  have hfa : ∀ W, Calls Try.prog 30 #[.agg #[.string ⟨#[102, 47, 97]⟩, .string ⟨#[120]⟩, .bool false]] W fun e w' => e = .returned (.tuple #[.string ⟨#[0, 3, 102, 47, 97, 120]⟩, .nilIface]) ∧ Below W.heap.size W w' := fun W => by
    have := rowBytes_any ⟨⟨#[102, 47, 97]⟩, ⟨#[120]⟩, false⟩ W (by show 3 ≤ 1000000; omega) (by show 1 ≤ 1000000; omega)
    rw [enc_fax] at this
    exact this
  have HFA := Lib.hid hfa
  clear hfa
  go_enter Try.func28, Try.ntmps28
  go_wp2_with fail
  refine (file_a _).mono ?_
  rintro e w1 ⟨rfl, rfl⟩
  go_wp2_with fail
  refine (HFA.out _).mono ?_
  rintro e w1 ⟨rfl, hb1⟩
  have HB1 := Lib.hid hb1
  clear hb1
  go_wp2_with fail
  refine (same_nil _).mono ?_
  rintro e w2 ⟨rfl, rfl⟩
  go_wp2_with fail
  refine (made_a _).mono ?_
  rintro e w2 ⟨rfl, rfl⟩
  go_wp2
  go_ret
  exact ⟨rfl, HB1.out⟩
theorem same_erV (k : Int) (hk : k = 0 ∨ 0 < k) (w : World) : Calls Try.prog 16 #[erV k, .int .i64 k] w fun e w' => e = .returned (.bool true) ∧ w = w' := by
  rcases hk with rfl | hk
  · exact same_nil w
  · rw [show erV k = .iface 96 (.int .i64 k) from if_neg (by omega)]
    exact same_err k hk w
/-- What the two encoders give, in one form. -/
def encS (c : Ch) : ByteArray := if ckR c = 0 then encR c else ByteArray.empty
theorem encV_eq (c : Ch) : encV c = .tuple #[.string (encS c), erV (ckR c)] := by
  unfold encV encS
  by_cases h : ckR c = 0
  · rw [if_pos h, if_pos h, h]; rfl
  · rw [if_neg h, if_neg h]
theorem cbV_eq (c : Ch) : cbV c = .tuple #[.string (encS c), .int .i64 (ckR c)] := by
  unfold cbV encS
  by_cases h : ckR c = 0
  · rw [if_pos h, if_pos h, h]
  · rw [if_neg h, if_neg h]; rfl
/-- What the two parsers give, in one form. -/
def parCh (s : ByteArray) : Ch := if parB s then parC s else ⟨ByteArray.empty, ByteArray.empty, false⟩
def parN (s : ByteArray) : Int := if parB s then 0 else 4
theorem parV_eq (s : ByteArray) : parV s = .tuple #[.agg #[.string (parCh s).key, .string (parCh s).val, .bool (parCh s).gone], erV (parN s)] := by
  unfold parV parCh parN
  split <;> rfl
theorem ofV_eq (s : ByteArray) : ofV s = .tuple #[.agg #[.string (parCh s).key, .string (parCh s).val, .bool (parCh s).gone], .int .i64 (parN s)] := by
  unfold ofV parCh parN
  split <;> rfl
theorem parN_cases (s : ByteArray) : parN s = 0 ∨ 0 < parN s := by
  unfold parN
  split
  · exact .inl rfl
  · exact .inr (by omega)
/-- A change in a block of its own, and two lists of changes. -/
structure RS (w : World) (c : Ch) (A1 A2 : Option Addr) (n1 c1 n2 c2 : Nat) (l1 l2 : List Ch) (W : World) : Prop where
  a0 : W.cell? ⟨w.heap.size, 0, none⟩ = some (.string c.key)
  a1 : W.cell? ⟨w.heap.size, 1, none⟩ = some (.string c.val)
  a2 : W.cell? ⟨w.heap.size, 2, none⟩ = some (.bool c.gone)
  r1 : RdC W w.heap.size A1 n1 c1 l1
  r2 : RdC W w.heap.size A2 n2 c2 l2
  bel : Below w.heap.size w W
  sz : w.heap.size + 1 ≤ W.heap.size
section
variable {w W W' : World} {c : Ch} {A1 A2 : Option Addr} {n1 c1 n2 c2 : Nat} {l1 l2 : List Ch}
theorem RS.step (h : RS w c A1 A2 n1 c1 n2 c2 l1 l2 W) (hb : Below W.heap.size W W') : RS w c A1 A2 n1 c1 n2 c2 l1 l2 W' := by
  have hs := h.sz
  have hc0 := fun (o : Nat) => hb.cell (p := ⟨w.heap.size, o, none⟩) (show w.heap.size < W.heap.size by omega)
  have hbw : Below w.heap.size W W' := hb.mono (by omega)
  exact ⟨(hc0 0).trans h.a0, (hc0 1).trans h.a1, (hc0 2).trans h.a2, h.r1.below hbw, h.r2.below hbw, h.bel.trans hbw, by have := hb.size; omega⟩
theorem RS.alloc (h : RS w c A1 A2 n1 c1 n2 c2 l1 l2 W) (o : Obj) : RS w c A1 A2 n1 c1 n2 c2 l1 l2 (W.alloc o) := h.step ((Below.refl _ _).alloc (Nat.le_refl _) o)
theorem RS.drewN (h : RS w c A1 A2 n1 c1 n2 c2 l1 l2 W) (k : Nat) : RS w c A1 A2 n1 c1 n2 c2 l1 l2 (W.drewN k) := h.step ⟨rfl, rfl, rfl, Nat.le_refl _, fun _ _ => rfl⟩
theorem RS.grown (h : RS w c A1 A2 n1 c1 n2 c2 l1 l2 W) (k : Nat) (os : Array Obj) : RS w c A1 A2 n1 c1 n2 c2 l1 l2 (grow (W.drewN k) os) := h.step (below_grownN (Below.refl _ _) (Nat.le_refl _) k os)
theorem RS.start (h1 : RdC w w.heap.size A1 n1 c1 l1) (h2 : RdC w w.heap.size A2 n2 c2 l2) (t : TypeId) : RS w c A1 A2 n1 c1 n2 c2 l1 l2 (w.alloc (.cells #[.string c.key, .string c.val, .bool c.gone] t)) := by
  have h := StC.new w c.key c.val c.gone t
  exact ⟨h.c0, h.c1, h.c2, h1.below h.b, h2.below h.b, h.b, by simp⟩
end
end Go.Proofs.Ytdkjnclbgkcblaa
