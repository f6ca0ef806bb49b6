/-
  WALK: row.Bytes: what it gives, for every change.
-/
import Derived.Test.YtgkenknplepmeaaRwC
namespace Go.Proofs.Ytgkenknplepmeaa
open Go.RowKit
set_option maxHeartbeats 1000000 in
set_option maxRecDepth 100000 in
theorem rowBytes_any (c : Ch) (w : World) (hs : c.key.size ≤ 1000000) (hv : c.val.size ≤ 1000000) : Calls Try.prog 30 #[c.v] w fun e w' => e = .returned (encV c) ∧ Below w.heap.size w w' := by
  have HC := Lib.hid (fun w => check_any c w hs)
  unfold encV
  rcases ckR_cases c with h0 | h0
  · rw [h0] at HC
    rw [if_pos h0]
    unfold encR
    obtain ⟨key, val, gone⟩ := c
    unfold Ch.v at *
    simp only at *
    clear h0
    have HN2 := Lib.hid (fun w => num1 key.size w (by omega))
    have H0 := Lib.hid (StC.new w key val gone 54)
    cases gone with
    | true =>
      rw [if_pos rfl]
      have HN1 := Lib.hid (fun w => show Calls Try.prog 67 #[.int .u64 1, .int .i64 1] w fun e w' => e = .returned (.string (numR 1 1)) ∧ Below w.heap.size w w' from num1 1 w (by omega))
      have z1 : (numR 1 1).size = 1 := numR_size _ _
      have z2 : (numR key.size 1).size = 1 := numR_size _ _
      have hwr : IntKind.u64.wrap (key.size : Int) = (key.size : Int) := by
        unfold IntKind.wrap
        simp [IntKind.bits, IntKind.signed]
        omega
      generalize numR 1 1 = n1 at *
      generalize numR key.size 1 = n2 at *
      have q1 : decide ((9223372036854775807 : Int) < (n1.size : Int) + (n2.size : Int)) = false := decide_eq_false (by omega)
      have q2 : ¬ ((9223372036854775807 : Int) < (n1.size : Int) + (n2.size : Int)) := by omega
      have q3 : ¬ ((9223372036854775807 : Int) < (n1.size : Int) + (n2.size : Int) + (key.size : Int)) := by omega
      have q4 : ¬ ((9223372036854775807 : Int) < (n1.size : Int) + (n2.size : Int) + (key.size : Int) + (val.size : Int)) := by omega
      have r1 : ¬ (IntKind.i64.max < (n1.size : Int) + (n2.size : Int)) := by simp [IntKind.max, IntKind.signed, IntKind.bits]; omega
      have r2 : ¬ (IntKind.i64.max < (n1.size : Int) + (n2.size : Int) + (key.size : Int)) := by simp [IntKind.max, IntKind.signed, IntKind.bits]; omega
      have r3 : ¬ (IntKind.i64.max < (n1.size : Int) + (n2.size : Int) + (key.size : Int) + (val.size : Int)) := by simp [IntKind.max, IntKind.signed, IntKind.bits]; omega
      have t1 : Op.stringOp .add n1 n2 = pure (.string (n1 ++ n2)) := by unfold Op.stringOp; simp [IntKind.max, IntKind.signed, IntKind.bits]; omega
      have t2 : Op.stringOp .add (n1 ++ n2) key = pure (.string (n1 ++ n2 ++ key)) := by unfold Op.stringOp; simp [IntKind.max, IntKind.signed, IntKind.bits]; omega
      have t3 : Op.stringOp .add (n1 ++ n2 ++ key) val = pure (.string (n1 ++ n2 ++ key ++ val)) := by unfold Op.stringOp; simp [IntKind.max, IntKind.signed, IntKind.bits]; omega
      clear z1 z2
      go_enter Try.func30, Try.ntmps30
      go_wp2_with fail
      refine (HC.out _).mono ?_
      rintro e w1 ⟨rfl, hb1⟩
      rw [show erV 0 = .nilIface from rfl]
      have st1 := H0.out.step hb1
      have c0 := st1.c0
      have c1 := st1.c1
      have c2 := st1.c2
      clear hb1 H0
      go_wp2_with fail
      have stD := st1.drew
      have c0D := stD.c0
      have c1D := stD.c1
      go_region_held3 (fun w' => w'.cell? ⟨w.heap.size, 0, none⟩ = some (.string key) ∧ w'.cell? ⟨w.heap.size, 1, none⟩ = some (.string val))
        (first | exact ⟨st3.c0, st3.c1⟩ | exact ⟨st2.c0, st2.c1⟩ | exact ⟨stD.c0, stD.c1⟩ | exact ⟨c0, c1⟩)
        (first
          | (have _g := st2; go_at_call 67; refine (HN2.out _).mono ?_; rintro e w3 ⟨rfl, hb3⟩; have st3 := st2.step hb3; have c03 := st3.c0; have c13 := st3.c1; clear hb3)
          | (go_at_call 67; refine (HN1.out _).mono ?_; rintro e w2 ⟨rfl, hb2⟩; have st2 := stD.step hb2; have c02 := st2.c0; have c12 := st2.c1; clear hb2))
      go_wp2_with fail
      go_ret2
      exact ⟨rfl, st3.b⟩
    | false =>
      rw [if_neg (by decide)]
      have HN1 := Lib.hid (fun w => show Calls Try.prog 67 #[.int .u64 0, .int .i64 1] w fun e w' => e = .returned (.string (numR 0 1)) ∧ Below w.heap.size w w' from num1 0 w (by omega))
      have z1 : (numR 0 1).size = 1 := numR_size _ _
      have z2 : (numR key.size 1).size = 1 := numR_size _ _
      have hwr : IntKind.u64.wrap (key.size : Int) = (key.size : Int) := by
        unfold IntKind.wrap
        simp [IntKind.bits, IntKind.signed]
        omega
      generalize numR 0 1 = n1 at *
      generalize numR key.size 1 = n2 at *
      have q1 : decide ((9223372036854775807 : Int) < (n1.size : Int) + (n2.size : Int)) = false := decide_eq_false (by omega)
      have q2 : ¬ ((9223372036854775807 : Int) < (n1.size : Int) + (n2.size : Int)) := by omega
      have q3 : ¬ ((9223372036854775807 : Int) < (n1.size : Int) + (n2.size : Int) + (key.size : Int)) := by omega
      have q4 : ¬ ((9223372036854775807 : Int) < (n1.size : Int) + (n2.size : Int) + (key.size : Int) + (val.size : Int)) := by omega
      have r1 : ¬ (IntKind.i64.max < (n1.size : Int) + (n2.size : Int)) := by simp [IntKind.max, IntKind.signed, IntKind.bits]; omega
      have r2 : ¬ (IntKind.i64.max < (n1.size : Int) + (n2.size : Int) + (key.size : Int)) := by simp [IntKind.max, IntKind.signed, IntKind.bits]; omega
      have r3 : ¬ (IntKind.i64.max < (n1.size : Int) + (n2.size : Int) + (key.size : Int) + (val.size : Int)) := by simp [IntKind.max, IntKind.signed, IntKind.bits]; omega
      have t1 : Op.stringOp .add n1 n2 = pure (.string (n1 ++ n2)) := by unfold Op.stringOp; simp [IntKind.max, IntKind.signed, IntKind.bits]; omega
      have t2 : Op.stringOp .add (n1 ++ n2) key = pure (.string (n1 ++ n2 ++ key)) := by unfold Op.stringOp; simp [IntKind.max, IntKind.signed, IntKind.bits]; omega
      have t3 : Op.stringOp .add (n1 ++ n2 ++ key) val = pure (.string (n1 ++ n2 ++ key ++ val)) := by unfold Op.stringOp; simp [IntKind.max, IntKind.signed, IntKind.bits]; omega
      clear z1 z2
      go_enter Try.func30, Try.ntmps30
      go_wp2_with fail
      refine (HC.out _).mono ?_
      rintro e w1 ⟨rfl, hb1⟩
      rw [show erV 0 = .nilIface from rfl]
      have st1 := H0.out.step hb1
      have c0 := st1.c0
      have c1 := st1.c1
      have c2 := st1.c2
      clear hb1 H0
      go_wp2_with fail
      have stD := st1.drew
      have c0D := stD.c0
      have c1D := stD.c1
      go_region_held3 (fun w' => w'.cell? ⟨w.heap.size, 0, none⟩ = some (.string key) ∧ w'.cell? ⟨w.heap.size, 1, none⟩ = some (.string val))
        (first | exact ⟨st3.c0, st3.c1⟩ | exact ⟨st2.c0, st2.c1⟩ | exact ⟨stD.c0, stD.c1⟩ | exact ⟨c0, c1⟩)
        (first
          | (have _g := st2; go_at_call 67; refine (HN2.out _).mono ?_; rintro e w3 ⟨rfl, hb3⟩; have st3 := st2.step hb3; have c03 := st3.c0; have c13 := st3.c1; clear hb3)
          | (go_at_call 67; refine (HN1.out _).mono ?_; rintro e w2 ⟨rfl, hb2⟩; have st2 := stD.step hb2; have c02 := st2.c0; have c12 := st2.c1; clear hb2))
      go_wp2_with fail
      go_ret2
      exact ⟨rfl, st3.b⟩
  · have hne : ckR c ≠ 0 := by omega
    rw [if_neg hne]
    have HE := Lib.hid (show erV (ckR c) = .iface 96 (.int .i64 (ckR c)) from if_neg hne)
    generalize ckR c = k at *
    obtain ⟨key, val, gone⟩ := c
    unfold Ch.v at *
    simp only at *
    clear h0 hne
    have H0 := Lib.hid (StC.new w key val gone 54)
    go_enter Try.func30, Try.ntmps30
    go_wp2_with fail
    refine (HC.out _).mono ?_
    rintro e w1 ⟨rfl, hb1⟩
    rw [HE.out]
    have st1 := H0.out.step hb1
    clear hb1 H0
    go_wp2_with fail
    go_ret2
    exact ⟨by rw [HE.out]; rfl, st1.b⟩
end Go.Proofs.Ytgkenknplepmeaa
