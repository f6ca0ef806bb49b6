/-
  WALKS: hammerpondref.ChangeOf and ChangeBytes: what they give, for every text and every change.
-/
import Derived.Test.YtgkenknplepmeaaCf
import Derived.Test.YtgkenknplepmeaaTr
namespace Go.Proofs.Ytgkenknplepmeaa
open Go.RowKit

def ofV (s : ByteArray) : Value := if parB s then .tuple #[(parC s).v, .int .i64 0] else .tuple #[zeroC, .int .i64 4]
set_option maxHeartbeats 2000000 in
set_option maxRecDepth 100000 in
theorem changeOf_any (s : ByteArray) (w : World) (hs : s.size ≤ 1000000) : Calls Try.prog 33 #[.string s] w fun e w' => e = .returned (ofV s) ∧ Below w.heap.size w w' := by
  have mixed : Try.prog.follows .mixedOrders = true := by kernel_rfl
  unfold ofV parB
  by_cases h2 : s.size < 2
  · have d2 : (s.size : Int) < 2 := by omega
    rw [decide_eq_false (show ¬ 2 ≤ s.size by omega)]
    simp only [Bool.false_and, Bool.false_eq_true, if_false]
    unfold zeroC
    go_enter Try.func33, Try.ntmps33
    go_wp2
    (try simp only [Exit.inBlock, Exit.then])
    refine bodyPost_ret (v := .tuple #[.agg #[.string ByteArray.empty, .string ByteArray.empty, .bool false], .int .i64 4]) ?_ rfl ⟨rfl, (Below.refl _ _).alloc (Nat.le_refl _) _⟩
    rw [results_cell_tmp rfl]
    go_simp
    rfl
  · have d2 : decide ((s.size : Int) < 2) = false := decide_eq_false (by omega)
    have i0 : 0 < s.size := by omega
    have i1 : 1 < s.size := by omega
    have i0z : (0 : Int) < (s.size : Int) := by omega
    have i1z : (1 : Int) < (s.size : Int) := by omega
    have e0 : by0 s = s[0].toNat := by unfold by0; rw [by_at i0]
    have e1 : by1 s = s[1].toNat := by unfold by1; rw [by_at i1]
    rw [decide_eq_true (show 2 ≤ s.size by omega)]
    by_cases h0 : 1 < by0 s
    · have d0 : (1 : Int) < (s[0].toNat : Int) := by omega
      rw [decide_eq_false (show ¬ by0 s ≤ 1 by omega)]
      simp only [Bool.and_false, Bool.false_and, Bool.false_eq_true, if_false]
      unfold zeroC
      clear e0 e1
      go_enter Try.func33, Try.ntmps33
      go_wp2
      (try simp only [Exit.inBlock, Exit.then])
      refine bodyPost_ret (v := .tuple #[.agg #[.string ByteArray.empty, .string ByteArray.empty, .bool false], .int .i64 4]) ?_ rfl ⟨rfl, (Below.refl _ _).alloc (Nat.le_refl _) _⟩
      rw [results_cell_tmp rfl]
      go_simp
      rfl
    · have d0 : decide ((1 : Int) < (s[0].toNat : Int)) = false := decide_eq_false (by omega)
      rw [decide_eq_true (show by0 s ≤ 1 by omega)]
      have hb1 : s[1].toNat < 256 := s[1].toNat_lt
      by_cases h1 : s.size < 2 + by1 s
      · have d1 : (s.size : Int) < 2 + (s[1].toNat : Int) := by omega
        rw [decide_eq_false (show ¬ 2 + by1 s ≤ s.size by omega)]
        simp only [Bool.and_false, Bool.false_and, Bool.false_eq_true, if_false]
        unfold zeroC
        clear e0 e1
        go_enter Try.func33, Try.ntmps33
        go_wp2
        (try simp only [Exit.inBlock, Exit.then])
        refine bodyPost_ret (v := .tuple #[.agg #[.string ByteArray.empty, .string ByteArray.empty, .bool false], .int .i64 4]) ?_ rfl ⟨rfl, (Below.refl _ _).alloc (Nat.le_refl _) _⟩
        rw [results_cell_tmp rfl]
        go_simp
        rfl
      · have d1 : decide ((s.size : Int) < 2 + (s[1].toNat : Int)) = false := decide_eq_false (by omega)
        rw [decide_eq_true (show 2 + by1 s ≤ s.size by omega)]
        simp only [Bool.true_and]
        have hck := fun W => changeFault_any (parC s) W (by show (s.extract 2 (2 + by1 s)).size ≤ 1000000; simp; omega)
        unfold parC at *
        rw [e1] at *
        have hg : (by0 s == 1) = ((s[0].toNat : Int) == 1) := by
          rw [e0]
          by_cases q : s[0].toNat = 1
          · rw [q]; rfl
          · rw [beq_eq_false_iff_ne.2 q, beq_eq_false_iff_ne.2 (by omega)]
        obtain ⟨gone, hgo⟩ : ∃ g, g = (by0 s == 1) := ⟨_, rfl⟩
        simp only [← hgo] at hck hg ⊢
        have hgw := hg.symm
        have t1 : (2 + (s[1].toNat : Int)).toNat = 2 + s[1].toNat := by omega
        have t2 : (2 : Int) ≤ 2 + (s[1].toNat : Int) := by omega
        have t3 : 2 + (s[1].toNat : Int) ≤ (s.size : Int) := by omega
        have t4 : (0 : Int) ≤ 2 + (s[1].toNat : Int) := by omega
        clear hg hgo e0 e1 h0 h1
        generalize hkey : s.extract 2 (2 + s[1].toNat) = key at *
        generalize hval : s.extract (2 + s[1].toNat) s.size = val at *
        by_cases hz : ckR ⟨key, val, gone⟩ = 0
        · rw [hz] at hck
          rw [decide_eq_true hz]
          simp only [if_true]
          unfold Ch.v
          clear hz
          have HCK := Lib.hid hck
          clear hck
          go_enter Try.func33, Try.ntmps33
          go_wp2_with fail
          go_big_region_o
          have hst := (StC.new (w.alloc (.cells #[.string ⟨#[]⟩, .string ⟨#[]⟩, .bool false] 54)) key val gone 54).drew
          have hbk : Blk ((w.alloc (.cells #[.string ⟨#[]⟩, .string ⟨#[]⟩, .bool false] 54)).alloc (.cells #[.string key, .string val, .bool gone] 54)).drew w.heap.size 54 #[.string ⟨#[]⟩, .string ⟨#[]⟩, .bool false] := ((Blk.new w 54 #[.string ⟨#[]⟩, .string ⟨#[]⟩, .bool false]).alloc _).drew
          have hbw : Below w.heap.size w ((w.alloc (.cells #[.string ⟨#[]⟩, .string ⟨#[]⟩, .bool false] 54)).alloc (.cells #[.string key, .string val, .bool gone] 54)).drew := (((Below.refl _ _).alloc (Nat.le_refl _) _).alloc (by simp) _).drew
          obtain ⟨c0, c1, c2, _, hlt⟩ := hst
          rw [show (w.alloc (.cells #[.string ⟨#[]⟩, .string ⟨#[]⟩, .bool false] 54)).heap.size = w.heap.size + 1 by simp] at c0 c1 c2 hlt
          generalize ((w.alloc (.cells #[.string ⟨#[]⟩, .string ⟨#[]⟩, .bool false] 54)).alloc (.cells #[.string key, .string val, .bool gone] 54)).drew = W at *
          go_wp2_with fail
          refine (HCK.out W).mono ?_
          rintro e w1 ⟨rfl, hb1⟩
          have hc := fun (o : Nat) => hb1.cell (p := ⟨w.heap.size + 1, o, none⟩) hlt
          rw [← hc] at c0 c1 c2
          have hbk1 : Blk w1 w.heap.size 54 #[.string ⟨#[]⟩, .string ⟨#[]⟩, .bool false] := (hb1.block w.heap.size (by omega)).trans hbk
          have hbw1 : Below w.heap.size w w1 := hbw.trans (hb1.mono (by omega))
          have r0 := hbk1.cell 0
          have r1 := hbk1.cell 1
          have r2 := hbk1.cell 2
          have f0 := hbk1.free 0
          have f1 := hbk1.free 1
          have f2 := hbk1.free 2
          have HBW := Lib.hid hbw1
          have hbs : ∀ (o : Nat) (v : Value) (X : World), Below w.heap.size w X → Below w.heap.size w (X.setCell ⟨w.heap.size, o, none⟩ v) := fun o v X h => h.setCell (Nat.le_refl _) v
          have HBS := Lib.hid hbs
          clear hc hbk hbw hb1 hbk1 hbw1 HCK hbs hlt
          go_wp2
          (try simp only [Exit.inBlock, Exit.then])
          refine bodyPost_ret (v := .tuple #[.agg #[.string key, .string val, .bool gone], .int .i64 0]) ?_ rfl ⟨rfl, HBS.out _ _ _ (HBS.out _ _ _ (HBS.out _ _ _ HBW.out))⟩
          rw [results_cell_tmp rfl]
          go_simp
        · rw [decide_eq_false hz]
          simp only [Bool.false_eq_true, if_false]
          have hkk : (0 : Int) < ckR ⟨key, val, gone⟩ := by rcases ckR_cases ⟨key, val, gone⟩ with h | h | h <;> omega
          generalize ckR ⟨key, val, gone⟩ = kk at *
          unfold zeroC
          clear hz
          have HCK := Lib.hid hck
          clear hck
          go_enter Try.func33, Try.ntmps33
          go_wp2_with fail
          go_big_region_o
          have hst := (StC.new (w.alloc (.cells #[.string ⟨#[]⟩, .string ⟨#[]⟩, .bool false] 54)) key val gone 54).drew
          have hbk : Blk ((w.alloc (.cells #[.string ⟨#[]⟩, .string ⟨#[]⟩, .bool false] 54)).alloc (.cells #[.string key, .string val, .bool gone] 54)).drew w.heap.size 54 #[.string ⟨#[]⟩, .string ⟨#[]⟩, .bool false] := ((Blk.new w 54 #[.string ⟨#[]⟩, .string ⟨#[]⟩, .bool false]).alloc _).drew
          have hbw : Below w.heap.size w ((w.alloc (.cells #[.string ⟨#[]⟩, .string ⟨#[]⟩, .bool false] 54)).alloc (.cells #[.string key, .string val, .bool gone] 54)).drew := (((Below.refl _ _).alloc (Nat.le_refl _) _).alloc (by simp) _).drew
          obtain ⟨c0, c1, c2, _, hlt⟩ := hst
          rw [show (w.alloc (.cells #[.string ⟨#[]⟩, .string ⟨#[]⟩, .bool false] 54)).heap.size = w.heap.size + 1 by simp] at c0 c1 c2 hlt
          generalize ((w.alloc (.cells #[.string ⟨#[]⟩, .string ⟨#[]⟩, .bool false] 54)).alloc (.cells #[.string key, .string val, .bool gone] 54)).drew = W at *
          go_wp2_with fail
          refine (HCK.out W).mono ?_
          rintro e w1 ⟨rfl, hb1⟩
          have hc := fun (o : Nat) => hb1.cell (p := ⟨w.heap.size + 1, o, none⟩) hlt
          rw [← hc] at c0 c1 c2
          have hbk1 : Blk w1 w.heap.size 54 #[.string ⟨#[]⟩, .string ⟨#[]⟩, .bool false] := (hb1.block w.heap.size (by omega)).trans hbk
          have hbw1 : Below w.heap.size w w1 := hbw.trans (hb1.mono (by omega))
          have r0 := hbk1.cell 0
          have r1 := hbk1.cell 1
          have r2 := hbk1.cell 2
          have f0 := hbk1.free 0
          have f1 := hbk1.free 1
          have f2 := hbk1.free 2
          have HBW := Lib.hid hbw1
          have hbs : ∀ (o : Nat) (v : Value) (X : World), Below w.heap.size w X → Below w.heap.size w (X.setCell ⟨w.heap.size, o, none⟩ v) := fun o v X h => h.setCell (Nat.le_refl _) v
          have HBS := Lib.hid hbs
          clear hc hbk hbw hb1 hbk1 hbw1 HCK hbs hlt
          go_wp2
          (try simp only [Exit.inBlock, Exit.then])
          refine bodyPost_ret (v := .tuple #[.agg #[.string ByteArray.empty, .string ByteArray.empty, .bool false], .int .i64 4]) ?_ rfl ⟨rfl, HBS.out _ _ _ (HBS.out _ _ _ (HBS.out _ _ _ HBW.out))⟩
          rw [results_cell_tmp rfl]
          go_simp
          rfl

def cbV (c : Ch) : Value := if ckR c = 0 then .tuple #[.string (encR c), .int .i64 0] else .tuple #[.string ⟨#[]⟩, .int .i64 (ckR c)]
theorem enc_two (c : Ch) (h : c.key.size ≤ 10) : encR c = ofBytes 2 (fun m => if m = 0 then (if c.gone then 1 else 0) else UInt8.ofNat c.key.size) ++ c.key ++ c.val := by
  apply list_eq
  rw [encR_list]
  simp only [ByteArray.data_append, Array.toList_append, ofBytes]
  have e : numF c.key.size 0 = UInt8.ofNat c.key.size := by
    unfold numF
    rw [Nat.pow_zero, Nat.div_one, Nat.mod_eq_of_lt (by omega)]
  rw [e]
  cases c.gone <;> rfl
set_option maxHeartbeats 2000000 in
set_option maxRecDepth 100000 in
theorem changeBytes_any (c : Ch) (w : World) (hs : c.key.size ≤ 1000000) (hv : c.val.size ≤ 1000000) : Calls Try.prog 31 #[c.v] w fun e w' => e = .returned (cbV c) ∧ Below w.heap.size w w' := by
  have HC := Lib.hid (fun w => changeFault_any c w hs)
  unfold cbV
  by_cases h0 : ckR c = 0
  · have hk := ckR_key h0
    have hen := enc_two c hk
    rw [h0] at HC
    rw [if_pos h0, hen]
    obtain ⟨key, val, gone⟩ := c
    unfold Ch.v at *
    simp only at *
    clear h0 hen
    have hwr : IntKind.u8.wrap (key.size : Int) = (key.size : Int) := by
      unfold IntKind.wrap
      simp [IntKind.bits, IntKind.signed]
      omega
    have H0 := Lib.hid (StC.new w key val gone 54)
    cases gone with
    | true =>
      simp only [if_true, Bool.false_eq_true, if_false]
      have hback := fun W : World => convert_back (P := Try.prog) (W.alloc (.cells #[.int .u8 1, .int .u8 (key.size : Int)] 5)) 107 9 5 W.heap.size 2 2 (fun m => if m = 0 then 1 else UInt8.ofNat key.size) Try.underlying107 Try.underlying5 Try.underlying9 (by
        refine ⟨#[.int .u8 1, .int .u8 (key.size : Int)], 5, _, Blk.new W 5 #[.int .u8 1, .int .u8 (key.size : Int)], .inr rfl, fun j hj => ?_⟩
        match j, hj with
        | 0, _ => rfl
        | 1, _ =>
          show some (Value.int .u8 (key.size : Int)) = some (.int .u8 ((UInt8.ofNat key.size).toNat : Int))
          rw [UInt8.toNat_ofNat_of_lt' (show key.size < UInt8.size by show key.size < 256; omega)])
      have zz : (ofBytes 2 (fun m => if m = 0 then (1 : UInt8) else UInt8.ofNat key.size)).size = 2 := by
        show (((List.range 2).map _).toArray).size = 2
        simp
      generalize ofBytes 2 (fun m => if m = 0 then (1 : UInt8) else UInt8.ofNat key.size) = n12 at *
      have q2 : ¬ ((9223372036854775807 : Int) < (n12.size : Int) + (key.size : Int)) := by omega
      have q3 : ¬ ((9223372036854775807 : Int) < (n12.size : Int) + (key.size : Int) + (val.size : Int)) := by omega
      have t2 : Op.stringOp .add n12 key = pure (.string (n12 ++ key)) := by unfold Op.stringOp; simp [IntKind.max, IntKind.signed, IntKind.bits]; omega
      have t3 : Op.stringOp .add (n12 ++ key) val = pure (.string (n12 ++ key ++ val)) := by unfold Op.stringOp; simp [IntKind.max, IntKind.signed, IntKind.bits]; omega
      go_enter Try.func31, Try.ntmps31
      go_wp2_with fail
      refine (HC.out _).mono ?_
      rintro e w1 ⟨rfl, hb1⟩
      have st1 := H0.out.step hb1
      have st2 := st1.step ((Below.refl _ _).alloc (Nat.le_refl _) (.cells #[.int .u8 1, .int .u8 (key.size : Int)] 5))
      have c0 := st1.c0
      have c1 := st1.c1
      have c2 := st1.c2
      have d0 := st2.c0
      have d1 := st2.c1
      have hbk := hback w1
      clear hb1 H0 hback
      go_wp2
      go_ret2
      exact ⟨rfl, st2.b⟩
    | false =>
      simp only [if_true, Bool.false_eq_true, if_false]
      have hback := fun W : World => convert_back (P := Try.prog) (W.alloc (.cells #[.int .u8 0, .int .u8 (key.size : Int)] 5)) 107 9 5 W.heap.size 2 2 (fun m => if m = 0 then 0 else UInt8.ofNat key.size) Try.underlying107 Try.underlying5 Try.underlying9 (by
        refine ⟨#[.int .u8 0, .int .u8 (key.size : Int)], 5, _, Blk.new W 5 #[.int .u8 0, .int .u8 (key.size : Int)], .inr rfl, fun j hj => ?_⟩
        match j, hj with
        | 0, _ => rfl
        | 1, _ =>
          show some (Value.int .u8 (key.size : Int)) = some (.int .u8 ((UInt8.ofNat key.size).toNat : Int))
          rw [UInt8.toNat_ofNat_of_lt' (show key.size < UInt8.size by show key.size < 256; omega)])
      have zz : (ofBytes 2 (fun m => if m = 0 then (0 : UInt8) else UInt8.ofNat key.size)).size = 2 := by
        show (((List.range 2).map _).toArray).size = 2
        simp
      generalize ofBytes 2 (fun m => if m = 0 then (0 : UInt8) else UInt8.ofNat key.size) = n12 at *
      have q2 : ¬ ((9223372036854775807 : Int) < (n12.size : Int) + (key.size : Int)) := by omega
      have q3 : ¬ ((9223372036854775807 : Int) < (n12.size : Int) + (key.size : Int) + (val.size : Int)) := by omega
      have t2 : Op.stringOp .add n12 key = pure (.string (n12 ++ key)) := by unfold Op.stringOp; simp [IntKind.max, IntKind.signed, IntKind.bits]; omega
      have t3 : Op.stringOp .add (n12 ++ key) val = pure (.string (n12 ++ key ++ val)) := by unfold Op.stringOp; simp [IntKind.max, IntKind.signed, IntKind.bits]; omega
      go_enter Try.func31, Try.ntmps31
      go_wp2_with fail
      refine (HC.out _).mono ?_
      rintro e w1 ⟨rfl, hb1⟩
      have st1 := H0.out.step hb1
      have st2 := st1.step ((Below.refl _ _).alloc (Nat.le_refl _) (.cells #[.int .u8 0, .int .u8 (key.size : Int)] 5))
      have c0 := st1.c0
      have c1 := st1.c1
      have c2 := st1.c2
      have d0 := st2.c0
      have d1 := st2.c1
      have hbk := hback w1
      clear hb1 H0 hback
      go_wp2
      go_ret2
      exact ⟨rfl, st2.b⟩
  · have hne : (0 : Int) < ckR c := by rcases ckR_cases c with h | h | h <;> omega
    rw [if_neg h0]
    generalize ckR c = k at *
    obtain ⟨key, val, gone⟩ := c
    unfold Ch.v at *
    simp only at *
    clear h0
    have H0 := Lib.hid (StC.new w key val gone 54)
    go_enter Try.func31, Try.ntmps31
    go_wp2_with fail
    refine (HC.out _).mono ?_
    rintro e w1 ⟨rfl, hb1⟩
    have st1 := H0.out.step hb1
    clear hb1 H0
    go_wp2
    go_ret2
    exact ⟨rfl, st1.b⟩
end Go.Proofs.Ytgkenknplepmeaa
