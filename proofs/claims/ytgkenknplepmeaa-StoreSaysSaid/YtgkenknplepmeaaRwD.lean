/-
  WALK: row.Bytes: what it gives, for every change.
-/
import Derived.Test.YtgkenknplepmeaaCat
import Derived.Test.YtgkenknplepmeaaRwC
import Derived.Laws.StructEq
import Derived.Laws.ResultCell
import Derived.BigQuiet
namespace Go.Proofs.Ytgkenknplepmeaa
open Go.RowKit

def SameRelC (w : World) (n : Nat) (i : Value) (wr : World) : Prop := ∃ k : Nat, k ≤ n ∧ i = .int .i64 k ∧ ∃ q, wr = w.drewN q
set_option maxHeartbeats 2000000 in
set_option maxRecDepth 100000 in
theorem sameC_any (A A' : Option Addr) (n c c' B B' : Nat) (l : List Ch) (w : World) (h : RdC w B A n c l) (h' : RdC w B' A' n c' l) :
    Calls Try.prog 37 #[.slice A n c, .slice A' n c'] w fun e w' => e = .returned (.bool true) ∧ ∃ k, w' = w.drewN k := by
  have hm := h.2.2.1
  have hnc := h.2.1
  unfold maxLen at hm
  have HR := Lib.hid h
  have HR' := Lib.hid h'
  clear h h'
  go_enter Try.func37, Try.ntmps37
  go_wp2
  go_loopw [5] (fun i wr => SameRelC w n i wr) (fun i _ => n - (intOf i).toNat)
  case atStart => exact ⟨0, Nat.zero_le _, rfl, 0, rfl⟩
  case round =>
    obtain ⟨k, hk, rfl, q, rfl⟩ := hrel
    by_cases hlt : k < n
    · obtain ⟨f, hf⟩ : ∃ f, l[k]? = some f := ⟨_, List.getElem?_eq_getElem (by rw [HR.out.1]; exact hlt)⟩
      obtain ⟨b, off, rfl, hbb, hc1, hc2, hc3⟩ := HR.out.at_ hf
      obtain ⟨b', off', rfl, hbb', hc1', hc2', hc3'⟩ := HR'.out.at_ hf
      clear hf
      obtain ⟨x, t, g⟩ := f
      have hiz : (k : Int) < (n : Int) := by omega
      go_wp2
      go_quiet (fail)
      go_wp2
      go_roundw
      case rel => exact ⟨k + 1, by omega, by go_num, by first | exact ⟨_, rfl⟩ | exact ⟨_, World.drewN_drewN _ _ _⟩⟩
      case measure => simp [intOf]; omega
    · obtain rfl : k = n := by omega
      go_wp2
      go_ret
      exact ⟨rfl, _, rfl⟩

/-- The first two bytes of a text, as numbers. -/
def by0 (s : ByteArray) : Nat := (s.data.getD 0 0).toNat
def by1 (s : ByteArray) : Nat := (s.data.getD 1 0).toNat
def parC (s : ByteArray) : Ch := ⟨s.extract 2 (2 + by1 s), s.extract (2 + by1 s) s.size, by0 s == 1⟩
def parB (s : ByteArray) : Bool := decide (2 ≤ s.size) && decide (by0 s ≤ 1) && decide (2 + by1 s ≤ s.size) && decide (ckR (parC s) = 0)
def zeroC : Value := .agg #[.string ByteArray.empty, .string ByteArray.empty, .bool false]
def parV (s : ByteArray) : Value := if parB s then .tuple #[(parC s).v, .nilIface] else .tuple #[zeroC, erV 4]
theorem by_at {s : ByteArray} {k : Nat} (hk : k < s.size) : (s.data.getD k 0) = s[k] := by
  show s.data.getD k 0 = s.data[k]
  rw [Array.getD_eq_getD_getElem?, Array.getElem?_eq_getElem hk]; rfl
set_option maxHeartbeats 2000000 in
set_option maxRecDepth 100000 in
theorem parse_any (s : ByteArray) (w : World) (hs : s.size ≤ 1000000) : Calls Try.prog 32 #[.string s] w fun e w' => e = .returned (parV s) ∧ Below w.heap.size w w' := by
  have mixed : Try.prog.follows .mixedOrders = true := by kernel_rfl
  unfold parV parB
  by_cases h2 : s.size < 2
  · have d2 : (s.size : Int) < 2 := by omega
    rw [decide_eq_false (show ¬ 2 ≤ s.size by omega)]
    simp only [Bool.false_and, Bool.false_eq_true, if_false]
    unfold zeroC
    go_enter Try.func32, Try.ntmps32
    go_wp2
    (try simp only [Exit.inBlock, Exit.then])
    refine bodyPost_ret (v := .tuple #[.agg #[.string ByteArray.empty, .string ByteArray.empty, .bool false], .iface 96 (.int .i64 4)]) ?_ rfl ⟨rfl, (Below.refl _ _).alloc (Nat.le_refl _) _⟩
    rw [results_cell_tmp rfl]
    go_simp
    rfl
  · have d2 : decide ((s.size : Int) < 2) = false := decide_eq_false (by omega)
    have i0 : 0 < s.size := by omega
    have i1 : 1 < s.size := by omega
    have i0z : (0 : Int) < (s.size : Int) := by omega
    have i1z : (1 : Int) < (s.size : Int) := by omega
    have e0 : by0 s = s[0].toNat := by unfold by0; rw [by_at i0]
    have e1 : by1 s = s[1].toNat := by unfold by1; rw [by_at i1]
    rw [decide_eq_true (show 2 ≤ s.size by omega)]
    by_cases h0 : 1 < by0 s
    · have d0 : (1 : Int) < (s[0].toNat : Int) := by omega
      rw [decide_eq_false (show ¬ by0 s ≤ 1 by omega)]
      simp only [Bool.and_false, Bool.false_and, Bool.false_eq_true, if_false]
      unfold zeroC
      clear e0 e1
      go_enter Try.func32, Try.ntmps32
      go_wp2
      (try simp only [Exit.inBlock, Exit.then])
      refine bodyPost_ret (v := .tuple #[.agg #[.string ByteArray.empty, .string ByteArray.empty, .bool false], .iface 96 (.int .i64 4)]) ?_ rfl ⟨rfl, (Below.refl _ _).alloc (Nat.le_refl _) _⟩
      rw [results_cell_tmp rfl]
      go_simp
      rfl
    · have d0 : decide ((1 : Int) < (s[0].toNat : Int)) = false := decide_eq_false (by omega)
      rw [decide_eq_true (show by0 s ≤ 1 by omega)]
      have hb1 : s[1].toNat < 256 := s[1].toNat_lt
      by_cases h1 : s.size < 2 + by1 s
      · have d1 : (s.size : Int) < 2 + (s[1].toNat : Int) := by omega
        rw [decide_eq_false (show ¬ 2 + by1 s ≤ s.size by omega)]
        simp only [Bool.and_false, Bool.false_and, Bool.false_eq_true, if_false]
        unfold zeroC
        clear e0 e1
        go_enter Try.func32, Try.ntmps32
        go_wp2
        (try simp only [Exit.inBlock, Exit.then])
        refine bodyPost_ret (v := .tuple #[.agg #[.string ByteArray.empty, .string ByteArray.empty, .bool false], .iface 96 (.int .i64 4)]) ?_ rfl ⟨rfl, (Below.refl _ _).alloc (Nat.le_refl _) _⟩
        rw [results_cell_tmp rfl]
        go_simp
        rfl
      · have d1 : decide ((s.size : Int) < 2 + (s[1].toNat : Int)) = false := decide_eq_false (by omega)
        rw [decide_eq_true (show 2 + by1 s ≤ s.size by omega)]
        simp only [Bool.true_and]
        have hck := fun W => check_any (parC s) W (by show (s.extract 2 (2 + by1 s)).size ≤ 1000000; simp; omega)
        unfold parC at *
        rw [e1] at *
        have hg : (by0 s == 1) = ((s[0].toNat : Int) == 1) := by
          rw [e0]
          by_cases q : s[0].toNat = 1
          · rw [q]; rfl
          · rw [beq_eq_false_iff_ne.2 q, beq_eq_false_iff_ne.2 (by omega)]
        obtain ⟨gone, hgo⟩ : ∃ g, g = (by0 s == 1) := ⟨_, rfl⟩
        simp only [← hgo] at hck hg ⊢
        have hgw := hg.symm
        have t1 : (2 + (s[1].toNat : Int)).toNat = 2 + s[1].toNat := by omega
        have t2 : (2 : Int) ≤ 2 + (s[1].toNat : Int) := by omega
        have t3 : 2 + (s[1].toNat : Int) ≤ (s.size : Int) := by omega
        have t4 : (0 : Int) ≤ 2 + (s[1].toNat : Int) := by omega
        clear hg hgo e0 e1 h0 h1
        generalize hkey : s.extract 2 (2 + s[1].toNat) = key at *
        generalize hval : s.extract (2 + s[1].toNat) s.size = val at *
        by_cases hz : ckR ⟨key, val, gone⟩ = 0
        · rw [hz] at hck
          rw [decide_eq_true hz]
          simp only [if_true]
          unfold Ch.v
          rw [show erV 0 = .nilIface from rfl] at hck
          clear hz
          have HCK := Lib.hid hck
          clear hck
          go_enter Try.func32, Try.ntmps32
          go_wp2_with fail
          go_big_region_o
          have hst := (StC.new (w.alloc (.cells #[.string ⟨#[]⟩, .string ⟨#[]⟩, .bool false] 54)) key val gone 54).drew
          have hbk : Blk ((w.alloc (.cells #[.string ⟨#[]⟩, .string ⟨#[]⟩, .bool false] 54)).alloc (.cells #[.string key, .string val, .bool gone] 54)).drew w.heap.size 54 #[.string ⟨#[]⟩, .string ⟨#[]⟩, .bool false] := ((Blk.new w 54 #[.string ⟨#[]⟩, .string ⟨#[]⟩, .bool false]).alloc _).drew
          have hbw : Below w.heap.size w ((w.alloc (.cells #[.string ⟨#[]⟩, .string ⟨#[]⟩, .bool false] 54)).alloc (.cells #[.string key, .string val, .bool gone] 54)).drew := (((Below.refl _ _).alloc (Nat.le_refl _) _).alloc (by simp) _).drew
          obtain ⟨c0, c1, c2, _, hlt⟩ := hst
          rw [show (w.alloc (.cells #[.string ⟨#[]⟩, .string ⟨#[]⟩, .bool false] 54)).heap.size = w.heap.size + 1 by simp] at c0 c1 c2 hlt
          generalize ((w.alloc (.cells #[.string ⟨#[]⟩, .string ⟨#[]⟩, .bool false] 54)).alloc (.cells #[.string key, .string val, .bool gone] 54)).drew = W at *
          go_wp2_with fail
          refine (HCK.out W).mono ?_
          rintro e w1 ⟨rfl, hb1⟩
          have hc := fun (o : Nat) => hb1.cell (p := ⟨w.heap.size + 1, o, none⟩) hlt
          rw [← hc] at c0 c1 c2
          have hbk1 : Blk w1 w.heap.size 54 #[.string ⟨#[]⟩, .string ⟨#[]⟩, .bool false] := (hb1.block w.heap.size (by omega)).trans hbk
          have hbw1 : Below w.heap.size w w1 := hbw.trans (hb1.mono (by omega))
          have r0 := hbk1.cell 0
          have r1 := hbk1.cell 1
          have r2 := hbk1.cell 2
          have f0 := hbk1.free 0
          have f1 := hbk1.free 1
          have f2 := hbk1.free 2
          have HBW := Lib.hid hbw1
          have hbs : ∀ (o : Nat) (v : Value) (X : World), Below w.heap.size w X → Below w.heap.size w (X.setCell ⟨w.heap.size, o, none⟩ v) := fun o v X h => h.setCell (Nat.le_refl _) v
          have HBS := Lib.hid hbs
          clear hc hbk hbw hb1 hbk1 hbw1 HCK hbs hlt
          go_wp2
          (try simp only [Exit.inBlock, Exit.then])
          refine bodyPost_ret (v := .tuple #[.agg #[.string key, .string val, .bool gone], .nilIface]) ?_ rfl ⟨rfl, HBS.out _ _ _ (HBS.out _ _ _ (HBS.out _ _ _ HBW.out))⟩
          rw [results_cell_tmp rfl]
          go_simp
        · rw [decide_eq_false hz]
          simp only [Bool.false_eq_true, if_false]
          have HE := Lib.hid (show erV (ckR ⟨key, val, gone⟩) = .iface 96 (.int .i64 (ckR ⟨key, val, gone⟩)) from if_neg hz)
          rw [HE.out] at hck
          generalize ckR ⟨key, val, gone⟩ = kk at *
          unfold zeroC
          clear hz HE
          have HCK := Lib.hid hck
          clear hck
          go_enter Try.func32, Try.ntmps32
          go_wp2_with fail
          go_big_region_o
          have hst := (StC.new (w.alloc (.cells #[.string ⟨#[]⟩, .string ⟨#[]⟩, .bool false] 54)) key val gone 54).drew
          have hbk : Blk ((w.alloc (.cells #[.string ⟨#[]⟩, .string ⟨#[]⟩, .bool false] 54)).alloc (.cells #[.string key, .string val, .bool gone] 54)).drew w.heap.size 54 #[.string ⟨#[]⟩, .string ⟨#[]⟩, .bool false] := ((Blk.new w 54 #[.string ⟨#[]⟩, .string ⟨#[]⟩, .bool false]).alloc _).drew
          have hbw : Below w.heap.size w ((w.alloc (.cells #[.string ⟨#[]⟩, .string ⟨#[]⟩, .bool false] 54)).alloc (.cells #[.string key, .string val, .bool gone] 54)).drew := (((Below.refl _ _).alloc (Nat.le_refl _) _).alloc (by simp) _).drew
          obtain ⟨c0, c1, c2, _, hlt⟩ := hst
          rw [show (w.alloc (.cells #[.string ⟨#[]⟩, .string ⟨#[]⟩, .bool false] 54)).heap.size = w.heap.size + 1 by simp] at c0 c1 c2 hlt
          generalize ((w.alloc (.cells #[.string ⟨#[]⟩, .string ⟨#[]⟩, .bool false] 54)).alloc (.cells #[.string key, .string val, .bool gone] 54)).drew = W at *
          go_wp2_with fail
          refine (HCK.out W).mono ?_
          rintro e w1 ⟨rfl, hb1⟩
          have hc := fun (o : Nat) => hb1.cell (p := ⟨w.heap.size + 1, o, none⟩) hlt
          rw [← hc] at c0 c1 c2
          have hbk1 : Blk w1 w.heap.size 54 #[.string ⟨#[]⟩, .string ⟨#[]⟩, .bool false] := (hb1.block w.heap.size (by omega)).trans hbk
          have hbw1 : Below w.heap.size w w1 := hbw.trans (hb1.mono (by omega))
          have r0 := hbk1.cell 0
          have r1 := hbk1.cell 1
          have r2 := hbk1.cell 2
          have f0 := hbk1.free 0
          have f1 := hbk1.free 1
          have f2 := hbk1.free 2
          have HBW := Lib.hid hbw1
          have hbs : ∀ (o : Nat) (v : Value) (X : World), Below w.heap.size w X → Below w.heap.size w (X.setCell ⟨w.heap.size, o, none⟩ v) := fun o v X h => h.setCell (Nat.le_refl _) v
          have HBS := Lib.hid hbs
          clear hc hbk hbw hb1 hbk1 hbw1 HCK hbs hlt
          go_wp2
          (try simp only [Exit.inBlock, Exit.then])
          refine bodyPost_ret (v := .tuple #[.agg #[.string ByteArray.empty, .string ByteArray.empty, .bool false], .iface 96 (.int .i64 4)]) ?_ rfl ⟨rfl, HBS.out _ _ _ (HBS.out _ _ _ (HBS.out _ _ _ HBW.out))⟩
          rw [results_cell_tmp rfl]
          go_simp
          rfl
end Go.Proofs.Ytgkenknplepmeaa
namespace Go.Proofs.Ytgkenknplepmeaa
open Go.RowKit
set_option maxHeartbeats 1000000 in
set_option maxRecDepth 100000 in
theorem rowBytes_any (c : Ch) (w : World) (hs : c.key.size ≤ 1000000) (hv : c.val.size ≤ 1000000) : Calls Try.prog 30 #[c.v] w fun e w' => e = .returned (encV c) ∧ Below w.heap.size w w' := by
  have HC := Lib.hid (fun w => check_any c w hs)
  unfold encV
  rcases ckR_cases c with h0 | h0
  · rw [h0] at HC
    rw [if_pos h0]
    unfold encR
    obtain ⟨key, val, gone⟩ := c
    unfold Ch.v at *
    simp only at *
    clear h0
    have HN2 := Lib.hid (fun w => num1 key.size w (by omega))
    have H0 := Lib.hid (StC.new w key val gone 54)
    cases gone with
    | true =>
      rw [if_pos rfl]
      have HN1 := Lib.hid (fun w => show Calls Try.prog 67 #[.int .u64 1, .int .i64 1] w fun e w' => e = .returned (.string (numR 1 1)) ∧ Below w.heap.size w w' from num1 1 w (by omega))
      have z1 : (numR 1 1).size = 1 := numR_size _ _
      have z2 : (numR key.size 1).size = 1 := numR_size _ _
      have hwr : IntKind.u64.wrap (key.size : Int) = (key.size : Int) := by
        unfold IntKind.wrap
        simp [IntKind.bits, IntKind.signed]
        omega
      generalize numR 1 1 = n1 at *
      generalize numR key.size 1 = n2 at *
      have q1 : decide ((9223372036854775807 : Int) < (n1.size : Int) + (n2.size : Int)) = false := decide_eq_false (by omega)
      have q2 : ¬ ((9223372036854775807 : Int) < (n1.size : Int) + (n2.size : Int)) := by omega
      have q3 : ¬ ((9223372036854775807 : Int) < (n1.size : Int) + (n2.size : Int) + (key.size : Int)) := by omega
      have q4 : ¬ ((9223372036854775807 : Int) < (n1.size : Int) + (n2.size : Int) + (key.size : Int) + (val.size : Int)) := by omega
      have r1 : ¬ (IntKind.i64.max < (n1.size : Int) + (n2.size : Int)) := by simp [IntKind.max, IntKind.signed, IntKind.bits]; omega
      have r2 : ¬ (IntKind.i64.max < (n1.size : Int) + (n2.size : Int) + (key.size : Int)) := by simp [IntKind.max, IntKind.signed, IntKind.bits]; omega
      have r3 : ¬ (IntKind.i64.max < (n1.size : Int) + (n2.size : Int) + (key.size : Int) + (val.size : Int)) := by simp [IntKind.max, IntKind.signed, IntKind.bits]; omega
      have t1 : Op.stringOp .add n1 n2 = pure (.string (n1 ++ n2)) := by unfold Op.stringOp; simp [IntKind.max, IntKind.signed, IntKind.bits]; omega
      have t2 : Op.stringOp .add (n1 ++ n2) key = pure (.string (n1 ++ n2 ++ key)) := by unfold Op.stringOp; simp [IntKind.max, IntKind.signed, IntKind.bits]; omega
      have t3 : Op.stringOp .add (n1 ++ n2 ++ key) val = pure (.string (n1 ++ n2 ++ key ++ val)) := by unfold Op.stringOp; simp [IntKind.max, IntKind.signed, IntKind.bits]; omega
      clear z1 z2
      go_enter Try.func30, Try.ntmps30
      go_wp2_with fail
      refine (HC.out _).mono ?_
      rintro e w1 ⟨rfl, hb1⟩
      rw [show erV 0 = .nilIface from rfl]
      have st1 := H0.out.step hb1
      have c0 := st1.c0
      have c1 := st1.c1
      have c2 := st1.c2
      clear hb1 H0
      go_wp2_with fail
      have stD := st1.drew
      have c0D := stD.c0
      have c1D := stD.c1
      go_region_held3 (fun w' => w'.cell? ⟨w.heap.size, 0, none⟩ = some (.string key) ∧ w'.cell? ⟨w.heap.size, 1, none⟩ = some (.string val))
        (first | exact ⟨st3.c0, st3.c1⟩ | exact ⟨st2.c0, st2.c1⟩ | exact ⟨stD.c0, stD.c1⟩ | exact ⟨c0, c1⟩)
        (first
          | (have _g := st2; go_at_call 67; refine (HN2.out _).mono ?_; rintro e w3 ⟨rfl, hb3⟩; have st3 := st2.step hb3; have c03 := st3.c0; have c13 := st3.c1; clear hb3)
          | (go_at_call 67; refine (HN1.out _).mono ?_; rintro e w2 ⟨rfl, hb2⟩; have st2 := stD.step hb2; have c02 := st2.c0; have c12 := st2.c1; clear hb2))
      go_wp2_with fail
      go_ret2
      exact ⟨rfl, st3.b⟩
    | false =>
      rw [if_neg (by decide)]
      have HN1 := Lib.hid (fun w => show Calls Try.prog 67 #[.int .u64 0, .int .i64 1] w fun e w' => e = .returned (.string (numR 0 1)) ∧ Below w.heap.size w w' from num1 0 w (by omega))
      have z1 : (numR 0 1).size = 1 := numR_size _ _
      have z2 : (numR key.size 1).size = 1 := numR_size _ _
      have hwr : IntKind.u64.wrap (key.size : Int) = (key.size : Int) := by
        unfold IntKind.wrap
        simp [IntKind.bits, IntKind.signed]
        omega
      generalize numR 0 1 = n1 at *
      generalize numR key.size 1 = n2 at *
      have q1 : decide ((9223372036854775807 : Int) < (n1.size : Int) + (n2.size : Int)) = false := decide_eq_false (by omega)
      have q2 : ¬ ((9223372036854775807 : Int) < (n1.size : Int) + (n2.size : Int)) := by omega
      have q3 : ¬ ((9223372036854775807 : Int) < (n1.size : Int) + (n2.size : Int) + (key.size : Int)) := by omega
      have q4 : ¬ ((9223372036854775807 : Int) < (n1.size : Int) + (n2.size : Int) + (key.size : Int) + (val.size : Int)) := by omega
      have r1 : ¬ (IntKind.i64.max < (n1.size : Int) + (n2.size : Int)) := by simp [IntKind.max, IntKind.signed, IntKind.bits]; omega
      have r2 : ¬ (IntKind.i64.max < (n1.size : Int) + (n2.size : Int) + (key.size : Int)) := by simp [IntKind.max, IntKind.signed, IntKind.bits]; omega
      have r3 : ¬ (IntKind.i64.max < (n1.size : Int) + (n2.size : Int) + (key.size : Int) + (val.size : Int)) := by simp [IntKind.max, IntKind.signed, IntKind.bits]; omega
      have t1 : Op.stringOp .add n1 n2 = pure (.string (n1 ++ n2)) := by unfold Op.stringOp; simp [IntKind.max, IntKind.signed, IntKind.bits]; omega
      have t2 : Op.stringOp .add (n1 ++ n2) key = pure (.string (n1 ++ n2 ++ key)) := by unfold Op.stringOp; simp [IntKind.max, IntKind.signed, IntKind.bits]; omega
      have t3 : Op.stringOp .add (n1 ++ n2 ++ key) val = pure (.string (n1 ++ n2 ++ key ++ val)) := by unfold Op.stringOp; simp [IntKind.max, IntKind.signed, IntKind.bits]; omega
      clear z1 z2
      go_enter Try.func30, Try.ntmps30
      go_wp2_with fail
      refine (HC.out _).mono ?_
      rintro e w1 ⟨rfl, hb1⟩
      rw [show erV 0 = .nilIface from rfl]
      have st1 := H0.out.step hb1
      have c0 := st1.c0
      have c1 := st1.c1
      have c2 := st1.c2
      clear hb1 H0
      go_wp2_with fail
      have stD := st1.drew
      have c0D := stD.c0
      have c1D := stD.c1
      go_region_held3 (fun w' => w'.cell? ⟨w.heap.size, 0, none⟩ = some (.string key) ∧ w'.cell? ⟨w.heap.size, 1, none⟩ = some (.string val))
        (first | exact ⟨st3.c0, st3.c1⟩ | exact ⟨st2.c0, st2.c1⟩ | exact ⟨stD.c0, stD.c1⟩ | exact ⟨c0, c1⟩)
        (first
          | (have _g := st2; go_at_call 67; refine (HN2.out _).mono ?_; rintro e w3 ⟨rfl, hb3⟩; have st3 := st2.step hb3; have c03 := st3.c0; have c13 := st3.c1; clear hb3)
          | (go_at_call 67; refine (HN1.out _).mono ?_; rintro e w2 ⟨rfl, hb2⟩; have st2 := stD.step hb2; have c02 := st2.c0; have c12 := st2.c1; clear hb2))
      go_wp2_with fail
      go_ret2
      exact ⟨rfl, st3.b⟩
  · have hne : ckR c ≠ 0 := by omega
    rw [if_neg hne]
    have HE := Lib.hid (show erV (ckR c) = .iface 96 (.int .i64 (ckR c)) from if_neg hne)
    generalize ckR c = k at *
    obtain ⟨key, val, gone⟩ := c
    unfold Ch.v at *
    simp only at *
    clear h0 hne
    have H0 := Lib.hid (StC.new w key val gone 54)
    go_enter Try.func30, Try.ntmps30
    go_wp2_with fail
    refine (HC.out _).mono ?_
    rintro e w1 ⟨rfl, hb1⟩
    rw [HE.out]
    have st1 := H0.out.step hb1
    clear hb1 H0
    go_wp2_with fail
    go_ret2
    exact ⟨by rw [HE.out]; rfl, st1.b⟩
end Go.Proofs.Ytgkenknplepmeaa
