/-
  WALK: log.content: what it gives, for a whole sector.
-/
import Derived.Test.YtgkenknplepmeaaPlain
import Derived.Test.YtgkenknplepmeaaCmp
import Derived.Laws.BitsAllLaws
import Derived.BigQuiet
namespace Go.Proofs.Ytgkenknplepmeaa
open Go.RowKit Go.Sort

/-- The world has drawn, and blocks have been laid behind it: nothing else has turned. -/
def Grw (w w' : World) : Prop := ∃ q os, w' = grow (w.drewN q) os
theorem Grw.refl (w : World) : Grw w w := ⟨0, #[], by rw [grow_empty]; rfl⟩
theorem Grw.alloc {w w' : World} (h : Grw w w') (o : Obj) : Grw w (w'.alloc o) := by
  obtain ⟨q, os, rfl⟩ := h
  exact ⟨q, os ++ #[o], by rw [alloc_eq_grow, grow_grow]⟩
theorem Grw.set {w w' : World} (h : Grw w w') {b i : Nat} (hb : w.heap.size ≤ b) (v : Value) : Grw w (w'.setCell ⟨b, i, none⟩ v) := by
  obtain ⟨q, os, rfl⟩ := h
  refine ⟨q, os.modify (b - w.heap.size) (onCells (·.setIfInBounds i v)), ?_⟩
  rw [setCell_eq]
  unfold mapBlock grow
  congr 1
  apply Array.ext_getElem?
  intro j
  show ((w.heap ++ os).modify b _)[j]? = (w.heap ++ os.modify (b - w.heap.size) _)[j]?
  rw [Array.getElem?_modify]
  rcases Nat.lt_or_ge j w.heap.size with h | h
  · rw [if_neg (by omega), Array.getElem?_append_left h, Array.getElem?_append_left h]
  · rw [Array.getElem?_append_right h, Array.getElem?_append_right h, Array.getElem?_modify]
    by_cases e : b = j
    · rw [if_pos e, if_pos (by omega)]
    · rw [if_neg e, if_neg (by omega)]
theorem Grw.below {w w' : World} (h : Grw w w') : Below w.heap.size w w' := by
  obtain ⟨q, os, rfl⟩ := h
  exact ⟨rfl, rfl, rfl, by show w.heap.size ≤ (w.heap ++ os).size; simp, fun k hk => by
    show (w.heap ++ os)[k]? = w.heap[k]?
    rw [Array.getElem?_append_left hk]⟩
def NmRelG (w : World) (g n size : Nat) (nv i : Value) (wr : World) : Prop :=
  ∃ k : Nat, k ≤ size ∧ i = .int .i64 k ∧ nv = .int .u64 ((n / 256 ^ k : Nat) : Int) ∧ ByF wr g size (fun m => if m < k then numF n m else 0) ∧ Grw w wr

set_option maxHeartbeats 1000000 in
set_option maxRecDepth 100000 in
theorem number_all (n size : Nat) (w : World) (hn : n < 2 ^ 64) (hs : size ≤ 1000) : Calls Try.prog 67 #[.int .u64 n, .int .i64 size] w fun e w' => e = .returned (.string (numR n size)) ∧ Grw w w' := by
  have hmk := make_bytes w size hs
  have d0 : decide ((0 : Int) < (size : Int)) = decide (0 < size) := by simp
  go_enter Try.func67, Try.ntmps67
  go_wp2_with fail
  clear hmk
  generalize hw0 : w.alloc (.cells (Array.replicate size (.int .u8 0)) 5) = w0 at *
  have HB0 := Lib.hid (show Grw w w0 by rw [← hw0]; exact (Grw.refl w).alloc _)
  have HY0 := Lib.hid (show ByF w0 w.heap.size size (fun _ => 0) by
    rw [← hw0]
    refine ⟨Array.replicate size (.int .u8 0), 5, _, (Blk.new w 5 (Array.replicate size (.int .u8 0))), ?_, fun j hj => ?_⟩
    · exact .inr rfl
    · simp [Array.getElem?_replicate, hj])
  clear hw0
  go_loopw [0, 12] (fun nv i wr => NmRelG w w.heap.size n size nv i wr) (fun _ i _ => size - (intOf i).toNat)
  case atStart => exact ⟨0, Nat.zero_le _, rfl, by simp, HY0.out.congr (fun m _ => by simp), HB0.out⟩
  case round =>
    obtain ⟨k, hk, rfl, rfl, hby, hb⟩ := hrel
    have HY := Lib.hid hby
    have HB := Lib.hid hb
    clear hby hb
    by_cases hlt : k < size
    · have zk : wr.frozen? ⟨w.heap.size, k, none⟩ = false := HY.out.frozen hlt
      have ck := HY.out.cell (j := k) hlt
      have i1 : (k : Int) < (size : Int) := by omega
      go_wp2_with fail
      go_roundw
      case rel =>
        have e1 : (n : Int) / 256 ^ k / 256 = ((n / 256 ^ (k + 1) : Nat) : Int) := by
          rw [Nat.pow_succ, ← Nat.div_div_eq_div_mul]; simp
        have e2 : (n : Int) / 256 ^ k % 256 = ((numF n k).toNat : Int) := by
          unfold numF
          have : n / 256 ^ k % 256 < 256 := Nat.mod_lt _ (by omega)
          rw [UInt8.toNat_ofNat_of_lt' (by simpa using this)]; simp
        rw [e1, e2]
        refine ⟨k + 1, by omega, by go_num, rfl, (HY.out.set (j := k) (numF n k)).congr (fun m _ => ?_), HB.out.set (Nat.le_refl _) _⟩
        by_cases hm : m = k
        · subst hm; simp
        · have h1 : (m < k + 1) = (m < k) := by rw [eq_iff_iff]; omega
          simp [hm, h1]
      case measure => simp [intOf]; omega
    · obtain rfl : k = size := by omega
      have hby := HY.out.congr (f' := numF n) (fun m hm => by simp [hm])
      have hback := convert_back (P := Try.prog) wr 107 9 5 w.heap.size k k _ Try.underlying107 Try.underlying5 Try.underlying9 hby
      clear hby
      go_wp2_with fail
      go_ret
      exact ⟨rfl, HB.out⟩

/-- The number that bytes stand for, the least first. -/
def ofL : List UInt8 → Nat
  | [] => 0
  | b :: r => b.toNat + 256 * ofL r
theorem ofL_lt : ∀ l : List UInt8, ofL l < 256 ^ l.length
  | [] => by simp [ofL]
  | b :: r => by
    have h1 := ofL_lt r
    have h2 := b.toNat_lt
    rw [ofL, List.length_cons, Nat.pow_succ]
    omega
def OfRel (s : ByteArray) (w : World) (nv i : Value) (wr : World) : Prop := ∃ k : Nat, k ≤ s.size ∧ i = .int .i64 k ∧ nv = .int .u64 ((ofL (s.data.toList.drop (s.size - k)) : Nat) : Int) ∧ wr = w
theorem or_low (n b : Nat) (hb : b < 256) (hn : n * 256 < 18446744073709551616) : bits .or .u64 ((n * 256 : Nat) : Int) (b : Int) = ((n * 256 + b : Nat) : Int) := by
  rw [u64_or_nat _ _ hn (by omega)]
  congr 1
  have := Nat.shiftLeft_add_eq_or_of_lt (i := 8) (b := b) (by omega) n
  rw [Nat.shiftLeft_eq, show (2 : Nat) ^ 8 = 256 from rfl] at this
  exact this.symm
set_option maxHeartbeats 1000000 in
set_option maxRecDepth 100000 in
theorem numberOf_any (s : ByteArray) (w : World) (hs : s.size ≤ 8) : Calls Try.prog 99 #[.string s] w fun e w' => e = .returned (.int .u64 ((ofL s.data.toList : Nat) : Int)) ∧ w' = w := by
  go_enter Try.func99, Try.ntmps99
  go_wp2
  go_loopw [3, 7] (fun nv i wr => OfRel s w nv i wr) (fun _ i _ => s.size - (intOf i).toNat)
  case atStart => exact ⟨0, Nat.zero_le _, rfl, by rw [List.drop_of_length_le (by rw [Array.length_toList]; exact Nat.le_refl _)]; rfl, rfl⟩
  case round =>
    obtain ⟨k, hk, rfl, rfl, rfl⟩ := hrel
    by_cases hlt : k < s.size
    · have i2 : s.size - 1 - k < s.size := by omega
      have hd : s.data.toList.drop (s.size - (k + 1)) = s[s.size - 1 - k]'i2 :: s.data.toList.drop (s.size - k) := by
        have e : s.size - (k + 1) = s.size - 1 - k := by omega
        rw [List.drop_eq_getElem_cons (by rw [Array.length_toList]; show s.size - (k + 1) < s.size; omega)]
        rw [show s.size - (k + 1) + 1 = s.size - k by omega]
        congr 1
        simp only [e, Array.getElem_toList]
        rfl
      have hl := ofL_lt (s.data.toList.drop (s.size - k))
      have hlen : (s.data.toList.drop (s.size - k)).length = k := by rw [List.length_drop, Array.length_toList]; show s.size - (s.size - k) = k; omega
      rw [hlen] at hl
      have hp : 256 ^ k * 256 ≤ 18446744073709551616 := by
        have : 256 ^ (k + 1) ≤ 256 ^ 8 := Nat.pow_le_pow_right (by omega) (by omega)
        rw [Nat.pow_succ] at this
        have e : (256 : Nat) ^ 8 = 18446744073709551616 := by decide
        omega
      have hstep : ofL (s.data.toList.drop (s.size - (k + 1))) = ofL (s.data.toList.drop (s.size - k)) * 256 + (s[s.size - 1 - k]'i2).toNat := by
        rw [hd, ofL]; omega
      have hb := (s[s.size - 1 - k]'i2).toNat_lt
      generalize ofL (s.data.toList.drop (s.size - k)) = n at *
      have hn : n * 256 < 18446744073709551616 := by
        have := Nat.mul_lt_mul_of_pos_right hl (show 0 < 256 by omega)
        omega
      have HST := Lib.hid hstep
      have i1 : (s.size : Int) - 1 - (k : Int) = ((s.size - 1 - k : Nat) : Int) := by omega
      have hor := or_low n (s[s.size - 1 - k]'i2).toNat hb hn
      clear hd hl hlen hp hstep
      go_wp2_with fail
      go_roundw
      case rel => exact ⟨k + 1, by omega, by go_num, by rw [HST.out, ← hor]; simp, rfl⟩
      case measure => simp [intOf]; omega
    · obtain rfl : k = s.size := by omega
      go_wp2
      go_ret
      rw [Nat.sub_self, List.drop_zero]
      exact ⟨rfl, rfl⟩
end Go.Proofs.Ytgkenknplepmeaa
namespace Go.Proofs.Ytgkenknplepmeaa
open Go.RowKit Go.Sort

theorem num2_size (n : Nat) : (numR n 2).size = 2 := by
  show (((List.range 2).map (numF n)).toArray).size = 2
  simp
theorem num4_size (n : Nat) : (numR n 4).size = 4 := by
  show (((List.range 4).map (numF n)).toArray).size = 4
  simp
set_option maxHeartbeats 1000000 in
set_option maxRecDepth 100000 in
theorem count_any (n : Nat) (w : World) (hn : n ≤ 4611686018427387904) : Calls Try.prog 96 #[.int .i64 n] w fun e w' => e = .returned (.string (numR n 4)) ∧ Grw w w' := by
  have HN : Hid (∀ W : World, Calls Try.prog 67 #[.int .u64 n, .int .i64 4] W fun e w' => e = .returned (.string (numR n 4)) ∧ Grw W w') := fun W => number_all n 4 W (by omega) (by omega)
  have hwr : IntKind.u64.wrap (n : Int) = (n : Int) := by
    unfold IntKind.wrap
    simp [IntKind.bits, IntKind.signed]
    omega
  go_enter Try.func96, Try.ntmps96
  go_wp2_with fail
  refine (HN.out _).mono ?_
  rintro e w1 ⟨rfl, hb1⟩
  go_wp2
  go_ret
  exact ⟨rfl, hb1⟩
/-- A sector of the log. -/
def secR (kind : ByteArray) (at_ : Nat) (data : ByteArray) : ByteArray := kind ++ numR at_ 4 ++ numR data.size 2 ++ data
set_option maxHeartbeats 1000000 in
set_option maxRecDepth 100000 in
theorem sector_any (kind data : ByteArray) (n : Nat) (w : World) (hn : n ≤ 4611686018427387904) (hk : kind.size ≤ 1000000) (hd : data.size ≤ 1000000) : Calls Try.prog 97 #[.string kind, .int .i64 n, .string data] w fun e w' => e = .returned (.string (secR kind n data)) ∧ Below w.heap.size w w' := by
  have HN : Hid (∀ W : World, Calls Try.prog 67 #[.int .u64 n, .int .i64 4] W fun e w' => e = .returned (.string (numR n 4)) ∧ Grw W w') := fun W => number_all n 4 W (by omega) (by omega)
  have HD : Hid (∀ W : World, Calls Try.prog 67 #[.int .u64 (data.size : Int), .int .i64 2] W fun e w' => e = .returned (.string (numR data.size 2)) ∧ Grw W w') := fun W => number_all data.size 2 W (by omega) (by omega)
  have hwr : IntKind.u64.wrap (n : Int) = (n : Int) := by
    unfold IntKind.wrap
    simp [IntKind.bits, IntKind.signed]
    omega
  have hwd : IntKind.u64.wrap (data.size : Int) = (data.size : Int) := by
    unfold IntKind.wrap
    simp [IntKind.bits, IntKind.signed]
    omega
  have z4 := num4_size n
  have z2 := num2_size data.size
  unfold secR
  generalize numR n 4 = b4 at *
  generalize numR data.size 2 = b2 at *
  have t1 : Op.stringOp .add kind b4 = pure (.string (kind ++ b4)) := by unfold Op.stringOp; simp [IntKind.max, IntKind.signed, IntKind.bits]; omega
  have t2 : Op.stringOp .add (kind ++ b4) b2 = pure (.string (kind ++ b4 ++ b2)) := by unfold Op.stringOp; simp [IntKind.max, IntKind.signed, IntKind.bits]; omega
  have t3 : Op.stringOp .add (kind ++ b4 ++ b2) data = pure (.string (kind ++ b4 ++ b2 ++ data)) := by unfold Op.stringOp; simp [IntKind.max, IntKind.signed, IntKind.bits]; omega
  go_enter Try.func97, Try.ntmps97
  go_wp2_with fail
  refine (HN.out _).mono ?_
  rintro e w1 ⟨rfl, hb1⟩
  go_wp2_with fail
  refine (HD.out _).mono ?_
  rintro e w2 ⟨rfl, hb2⟩
  go_wp2
  go_ret
  exact ⟨rfl, hb1.below.trans (hb2.below.mono hb1.below.size)⟩
end Go.Proofs.Ytgkenknplepmeaa
namespace Go.Proofs.Ytgkenknplepmeaa
open Go.RowKit Go.Sort Go.Shelf

theorem Grw.drewN {w w' : World} (h : Grw w w') (k : Nat) : Grw w (w'.drewN k) := by
  obtain ⟨q, os, rfl⟩ := h
  exact ⟨q + k, os, by show grow ((w.drewN q).drewN k) os = _; rw [World.drewN_drewN]⟩
def szR (s : ByteArray) : Nat := ofL (s.extract 5 7).data.toList
def conB (s : ByteArray) (n : Nat) : Bool := (decide ((s.extract 0 1).toList = [111]) || decide ((s.extract 0 1).toList = [99])) && (decide ((s.extract 1 5).toList = (numR n 4).toList) && decide (szR s ≤ 333))
def conV (s : ByteArray) (n : Nat) : Value := if conB s n then .tuple #[.string (s.extract 0 1), .string (s.extract 7 (7 + szR s))] else .tuple #[.string ⟨#[]⟩, .string ⟨#[]⟩]
set_option maxHeartbeats 2000000 in
set_option maxRecDepth 100000 in
theorem content_any (s : ByteArray) (n : Nat) (w : World) (hs : s.size = 340) (hn : n ≤ 4611686018427387904) : Calls Try.prog 95 #[.string s, .int .i64 n] w fun e w' => e = .returned (conV s n) ∧ Grw w w' := by
  have mixed : Try.prog.follows .mixedOrders = true := by kernel_rfl
  have hof := numberOf_any (s.extract 5 7) w (by rw [ByteArray.size_extract]; omega)
  have HOF : Hid (Calls Try.prog 99 #[.string (s.extract 5 7)] w fun e w' => e = .returned (.int .u64 ((szR s : Nat) : Int)) ∧ w' = w) := hof
  have hnb : ∀ q os, Calls Try.prog 67 #[.int .u64 n, .int .i64 4] (grow (w.drewN q) os) fun e w' => e = .returned (.string (numR n 4)) ∧ ∃ q' os', w' = grow ((grow (w.drewN q) os).drewN q') os' := fun q os => number_all n 4 (grow (w.drewN q) os) (by omega) (by omega)
  have hwr : IntKind.u64.wrap (n : Int) = (n : Int) := by
    unfold IntKind.wrap
    simp [IntKind.bits, IntKind.signed]
    omega
  have l1 : (1 : Int) ≤ (s.size : Int) := by omega
  have l5 : (5 : Int) ≤ (s.size : Int) := by omega
  have l7 : (7 : Int) ≤ (s.size : Int) := by omega
  have n1 : 1 ≤ s.size := by omega
  have n5 : 5 ≤ s.size := by omega
  have n7 : 7 ≤ s.size := by omega
  unfold conV conB
  clear hof
  generalize szR s = z at *
  generalize numR n 4 = b4 at *
  by_cases ho : (s.extract 0 1).toList = [111]
  · rw [decide_eq_true ho]
    have hc : ¬ (s.extract 0 1).toList = [99] := fun e => by rw [e] at ho; cases ho
    simp only [Bool.true_or, Bool.true_and]
    by_cases hb : (s.extract 1 5).toList = b4.toList
    · have hbe : ((s.extract 1 5).toList == b4.toList) = true := by rw [hb]; simp
      rw [decide_eq_true hb]
      by_cases hz : z ≤ 333
      · have z1 : decide ((333 : Int) < (z : Int)) = false := decide_eq_false (by omega)
        have z2 : ¬ ((333 : Int) < (z : Int)) := by omega
        have z3 : (7 : Int) + (z : Int) ≤ (s.size : Int) := by omega
        have z4 : ((7 : Int) + (z : Int)).toNat = 7 + z := by omega
        rw [decide_eq_true hz]
        simp only [Bool.or_true, Bool.true_or, Bool.or_false, Bool.false_or, Bool.and_true, Bool.true_and, Bool.and_false, Bool.false_and, Bool.or_self, Bool.and_self, Bool.false_eq_true, if_false, if_true]
        go_enter Try.func95, Try.ntmps95
        go_wp2_with fail
        refine HOF.out.mono ?_
        rintro e w1 ⟨rfl, rfl⟩
        go_wp2_with fail
        refine wp_region_quiet_grown (by assumption) (by kernel_rfl) ?_
        repeat (go_big_quiet_step (first | (go_at_call 67; (with_reducible refine Calls.grown_of (hnb _ _)))))
        refine wpQuiet_nil ?_
        intro _ hw'
        obtain ⟨⟨nq, osq⟩, hw''⟩ := hw'
        subst hw''
        generalize hw2 : grow (w1.drewN nq) osq = w2 at *
        go_wp2_with fail
        go_quiet (fail)
        go_wp2
        go_ret2
        exact ⟨rfl, by rw [← hw2]; exact Grw.drewN ⟨_, osq, rfl⟩ _⟩
      · have z1 : (333 : Int) < (z : Int) := by omega
        rw [decide_eq_false hz]
        simp only [Bool.or_true, Bool.true_or, Bool.or_false, Bool.false_or, Bool.and_true, Bool.true_and, Bool.and_false, Bool.false_and, Bool.or_self, Bool.and_self, Bool.false_eq_true, if_false, if_true]
        go_enter Try.func95, Try.ntmps95
        go_wp2_with fail
        refine HOF.out.mono ?_
        rintro e w1 ⟨rfl, rfl⟩
        go_wp2_with fail
        refine wp_region_quiet_grown (by assumption) (by kernel_rfl) ?_
        repeat (go_big_quiet_step (first | (go_at_call 67; (with_reducible refine Calls.grown_of (hnb _ _)))))
        refine wpQuiet_nil ?_
        intro _ hw'
        obtain ⟨⟨nq, osq⟩, hw''⟩ := hw'
        subst hw''
        go_wp2
        go_ret2
        exact ⟨rfl, nq, osq, rfl⟩
    · have hbe : ((s.extract 1 5).toList == b4.toList) = false := by rw [beq_eq_false_iff_ne]; exact hb
      rw [decide_eq_false hb]
      simp only [Bool.or_true, Bool.true_or, Bool.or_false, Bool.false_or, Bool.and_true, Bool.true_and, Bool.and_false, Bool.false_and, Bool.or_self, Bool.and_self, Bool.false_eq_true, if_false, if_true]
      go_enter Try.func95, Try.ntmps95
      go_wp2_with fail
      refine HOF.out.mono ?_
      rintro e w1 ⟨rfl, rfl⟩
      go_wp2_with fail
      refine wp_region_quiet_grown (by assumption) (by kernel_rfl) ?_
      repeat (go_big_quiet_step (first | (go_at_call 67; (with_reducible refine Calls.grown_of (hnb _ _)))))
      refine wpQuiet_nil ?_
      intro _ hw'
      obtain ⟨⟨nq, osq⟩, hw''⟩ := hw'
      subst hw''
      go_wp2
      go_ret2
      exact ⟨rfl, nq, osq, rfl⟩
  · rw [decide_eq_false ho]
    by_cases hc : (s.extract 0 1).toList = [99]
    · rw [decide_eq_true hc]
      simp only [Bool.or_true, Bool.true_and]
      by_cases hb : (s.extract 1 5).toList = b4.toList
      · have hbe : ((s.extract 1 5).toList == b4.toList) = true := by rw [hb]; simp
        rw [decide_eq_true hb]
        by_cases hz : z ≤ 333
        · have z1 : decide ((333 : Int) < (z : Int)) = false := decide_eq_false (by omega)
          have z2 : ¬ ((333 : Int) < (z : Int)) := by omega
          have z3 : (7 : Int) + (z : Int) ≤ (s.size : Int) := by omega
          have z4 : ((7 : Int) + (z : Int)).toNat = 7 + z := by omega
          rw [decide_eq_true hz]
          simp only [Bool.or_true, Bool.true_or, Bool.or_false, Bool.false_or, Bool.and_true, Bool.true_and, Bool.and_false, Bool.false_and, Bool.or_self, Bool.and_self, Bool.false_eq_true, if_false, if_true]
          go_enter Try.func95, Try.ntmps95
          go_wp2_with fail
          refine HOF.out.mono ?_
          rintro e w1 ⟨rfl, rfl⟩
          go_wp2_with fail
          refine wp_region_quiet_grown (by assumption) (by kernel_rfl) ?_
          repeat (go_big_quiet_step (first | (go_at_call 67; (with_reducible refine Calls.grown_of (hnb _ _)))))
          refine wpQuiet_nil ?_
          intro _ hw'
          obtain ⟨⟨nq, osq⟩, hw''⟩ := hw'
          subst hw''
          generalize hw2 : grow (w1.drewN nq) osq = w2 at *
          go_wp2_with fail
          go_quiet (fail)
          go_wp2
          go_ret2
          exact ⟨rfl, by rw [← hw2]; exact Grw.drewN ⟨_, osq, rfl⟩ _⟩
        · have z1 : (333 : Int) < (z : Int) := by omega
          rw [decide_eq_false hz]
          simp only [Bool.or_true, Bool.true_or, Bool.or_false, Bool.false_or, Bool.and_true, Bool.true_and, Bool.and_false, Bool.false_and, Bool.or_self, Bool.and_self, Bool.false_eq_true, if_false, if_true]
          go_enter Try.func95, Try.ntmps95
          go_wp2_with fail
          refine HOF.out.mono ?_
          rintro e w1 ⟨rfl, rfl⟩
          go_wp2_with fail
          refine wp_region_quiet_grown (by assumption) (by kernel_rfl) ?_
          repeat (go_big_quiet_step (first | (go_at_call 67; (with_reducible refine Calls.grown_of (hnb _ _)))))
          refine wpQuiet_nil ?_
          intro _ hw'
          obtain ⟨⟨nq, osq⟩, hw''⟩ := hw'
          subst hw''
          go_wp2
          go_ret2
          exact ⟨rfl, nq, osq, rfl⟩
      · have hbe : ((s.extract 1 5).toList == b4.toList) = false := by rw [beq_eq_false_iff_ne]; exact hb
        rw [decide_eq_false hb]
        simp only [Bool.or_true, Bool.true_or, Bool.or_false, Bool.false_or, Bool.and_true, Bool.true_and, Bool.and_false, Bool.false_and, Bool.or_self, Bool.and_self, Bool.false_eq_true, if_false, if_true]
        go_enter Try.func95, Try.ntmps95
        go_wp2_with fail
        refine HOF.out.mono ?_
        rintro e w1 ⟨rfl, rfl⟩
        go_wp2_with fail
        refine wp_region_quiet_grown (by assumption) (by kernel_rfl) ?_
        repeat (go_big_quiet_step (first | (go_at_call 67; (with_reducible refine Calls.grown_of (hnb _ _)))))
        refine wpQuiet_nil ?_
        intro _ hw'
        obtain ⟨⟨nq, osq⟩, hw''⟩ := hw'
        subst hw''
        go_wp2
        go_ret2
        exact ⟨rfl, nq, osq, rfl⟩
    · rw [decide_eq_false hc]
      have ho2 : ((s.extract 0 1).toList == [111]) = false := by rw [beq_eq_false_iff_ne]; exact ho
      have hc2 : ((s.extract 0 1).toList == [99]) = false := by rw [beq_eq_false_iff_ne]; exact hc
      simp only [Bool.or_self, Bool.false_and, Bool.false_eq_true, if_false]
      go_enter Try.func95, Try.ntmps95
      go_wp2_with fail
      refine HOF.out.mono ?_
      rintro e w1 ⟨rfl, rfl⟩
      go_wp2_with fail
      refine wp_region_quiet_grown (by assumption) (by kernel_rfl) ?_
      repeat (go_big_quiet_step (first | (go_at_call 67; (with_reducible refine Calls.grown_of (hnb _ _)))))
      refine wpQuiet_nil ?_
      intro _ hw'
      obtain ⟨⟨nq, osq⟩, hw''⟩ := hw'
      subst hw''
      go_wp2
      go_ret2
      exact ⟨rfl, nq, osq, rfl⟩
end Go.Proofs.Ytgkenknplepmeaa
