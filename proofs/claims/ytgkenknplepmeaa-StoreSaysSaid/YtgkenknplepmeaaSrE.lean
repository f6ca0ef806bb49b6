/-
  WALK: store.readHead of a disk without a store.
-/
import Derived.Test.YtgkenknplepmeaaSrB
import Derived.StillTailTactics
namespace Go.Proofs.Ytgkenknplepmeaa
open Go.RowKit Go.Sort

theorem num4_ne (n : Nat) : numR n 4 ≠ numR (n + 1) 4 := fun e => by
  have h := congrArg (fun s : ByteArray => s.data.toList) e
  simp only [numR_list] at h
  have h0 : numF n 0 = numF (n + 1) 0 := by
    have := congrArg (fun l : List UInt8 => l[0]?) h
    simpa using this
  have h1 := congrArg UInt8.toNat h0
  unfold numF at h1
  rw [UInt8.toNat_ofNat_of_lt' (by show _ < 256; exact Nat.mod_lt _ (by omega)), UInt8.toNat_ofNat_of_lt' (by show _ < 256; exact Nat.mod_lt _ (by omega))] at h1
  simp at h1
  omega
theorem kdR_other {s : ByteArray} {n m : Nat} (h : conB s n = true) (hne : numR n 4 ≠ numR m 4) : conB s m = false := by
  unfold conB at h ⊢
  rw [Bool.and_eq_true, Bool.and_eq_true, decide_eq_true_eq, decide_eq_true_eq] at h
  have : ¬ (s.extract 1 5).toList = (numR m 4).toList := fun e => hne (toList_inj (h.2.1.symm.trans e))
  rw [decide_eq_false this]
  simp
/-- Of two numbers one will do. -/
theorem empty_or (f : Nat → ByteArray) (first m : Nat) : (rdR f first m 0 [] [] 0).1 = [] ∧ (rdR f first m 0 [] [] 0).2 = 0 ∨ rdR f (first + 1) m 0 [] [] 0 = ([], 0) := by
  cases m with
  | zero => exact .inl ⟨rfl, rfl⟩
  | succ m =>
    by_cases hc : conB (f 0) first = true
    · right
      have h2 : conB (f 0) (first + 1) = false := kdR_other hc (num4_ne first)
      rw [rdR]
      unfold kdR
      rw [Nat.add_zero, h2]
      simp only [Bool.false_eq_true, if_false]
      rw [if_neg (by rintro ⟨h, _⟩; rw [nil_list] at h; cases h), if_neg (by rintro ⟨h, _⟩; rw [nil_list] at h; cases h)]
    · left
      rw [Bool.not_eq_true] at hc
      have h3 : rdR f first (m + 1) 0 [] [] 0 = ([], 0) := by
        rw [rdR]
        unfold kdR
        rw [Nat.add_zero, hc]
        simp only [Bool.false_eq_true, if_false]
        rw [if_neg (by rintro ⟨h, _⟩; rw [nil_list] at h; cases h), if_neg (by rintro ⟨h, _⟩; rw [nil_list] at h; cases h)]
      rw [h3]
      exact ⟨rfl, rfl⟩
theorem rdR_grow (f : Nat → ByteArray) (first : Nat) : ∀ (m i : Nat) (es : List (List Ch)) (cs : List Ch) (u : Nat), es.length ≤ (rdR f first m i es cs u).1.length ∧ ((rdR f first m i es cs u).1.length = es.length → (rdR f first m i es cs u).2 = u)
  | 0, _, _, _, _ => ⟨Nat.le_refl _, fun _ => rfl⟩
  | m + 1, i, es, cs, u => by
    rw [rdR]
    split
    · exact rdR_grow f first m (i + 1) es _ u
    · split
      · have h := rdR_grow f first m (i + 1) (es ++ [cs]) [] (i + 1)
        have e : (es ++ [cs]).length = es.length + 1 := by simp
        rw [e] at h
        exact ⟨by omega, fun h2 => by omega⟩
      · exact ⟨Nat.le_refl _, fun _ => rfl⟩
theorem rdR_nil_end (f : Nat → ByteArray) (first m : Nat) (h : (rdR f first m 0 [] [] 0).1 = []) : rdR f first m 0 [] [] 0 = ([], 0) :=
  Prod.ext h ((rdR_grow f first m 0 [] [] 0).2 (by rw [h]))
def ElRel (w : World) (f : Nat → ByteArray) (first mn : Nat) (v1 : Value) (wr : World) : Prop := ∃ k : Nat, k ≤ 1 ∧ v1 = .int .i64 ((first + k : Nat) : Int) ∧ (k = 1 → rdR f (first + 1) mn 0 [] [] 0 = ([], 0)) ∧ Below w.heap.size w wr
/-- A log without entries. -/
def ElPost (w : World) (p : Nat) (D : Dk) (first : Nat) (e : Ending) (w' : World) : Prop := ∃ pl fi, e = .returned (.tuple #[ptr pl, .int .i64 (fi : Nat), .nilIface]) ∧ first ≤ fi ∧ fi ≤ first + 1 ∧ w.heap.size ≤ pl ∧ rdR (nowF D 44) fi (D.n - 44) 0 [] [] 0 = ([], 0) ∧ Blk w' pl tLog #[ptr p, .int .i64 (44 : Nat), .int .i64 ((D.n - 44 : Nat) : Int), .int .i64 (fi : Nat), .int .i64 (0 : Nat)] ∧ Below w.heap.size w w'
set_option maxHeartbeats 1000000 in
set_option maxRecDepth 100000 in
theorem emptyLog_any (base p B first : Nat) (V : Nat → Value) (D : Dk) (w : World) (hd : DkAt w base p B V D) (hdn : D.down = false) (hn : 50 ≤ D.n) (hf : 1 ≤ first) (hf2 : first ≤ 100000000000) :
    Calls Try.prog 83 #[ptr p, .int .i64 first] w (ElPost w p D first) := by
  have hn2 := hd.n2
  have HD := Lib.hid hd
  clear hd
  unfold ptr
  go_enter Try.func83, Try.ntmps83
  go_wp2
  go_loopw [1, 7, 8, 9] (fun v1 _ _ _ wx => ElRel w (nowF D 44) first (D.n - 44) v1 wx) (fun v1 _ _ _ _ => first + 1 - (intOf v1).toNat)
  case atStart => exact ⟨0, by omega, rfl, fun h => absurd h (by omega), Below.refl _ _⟩
  case round =>
    obtain ⟨k, hk, rfl, hk1, hb⟩ := hrel
    have HK1 := Lib.hid hk1
    have HB := Lib.hid hb
    have hd1 := HD.out.keep (w' := wr) fun _ _ hk => hb.block _ hk
    have HLS := Lib.hid (logSectors_any base p B V D wr hd1)
    obtain ⟨es, u, hrd⟩ : ∃ es u, rdR (nowF D 44) (first + k) (D.n - 44) 0 [] [] 0 = (es, u) := ⟨_, _, rfl⟩
    have HOP := Lib.hid (open_kp w.heap.size base p B 44 (D.n - 44) (first + k) V D wr hd1 hdn (by omega) (by omega) (by omega) (by omega) hrd)
    have HRD := Lib.hid hrd
    rw [show ((44 : Nat) : Int) = 44 from rfl, show ((D.n - 44 : Nat) : Int) = (D.n : Int) - 44 by omega] at HOP
    unfold ptr at HLS HOP
    clear hk1 hb hd1 hrd
    go_wp2_with fail
    refine HLS.out.mono ?_
    rintro e w1 ⟨rfl, rfl⟩
    go_wp2_with fail
    refine HOP.out.mono ?_
    rintro e w2 ⟨Ag, cg, rfl, -, hl2, hb2⟩
    have HL2 := Lib.hid hl2
    have HB2 := Lib.hid (HB.out.trans (hb2.mono HB.out.size))
    have hsz := HB.out.size
    clear hl2 hb2 HOP HLS HB
    by_cases hes : es = []
    · subst hes
      have hu : u = 0 := by have := rdR_nil_end _ _ _ (show (rdR (nowF D 44) (first + k) (D.n - 44) 0 [] [] 0).1 = [] by rw [HRD.out]); rw [HRD.out] at this; injection this
      subst hu
      go_wp2
      go_ret3
      exact ⟨_, first + k, rfl, by omega, by omega, hsz, HRD.out, by have h := HL2.out; rw [show ((D.n - 44 : Nat) : Int) = (D.n : Int) - 44 by omega]; exact h, HB2.out⟩
    · have hk0 : k = 0 := by
        rcases Nat.lt_or_ge k 1 with h | h
        · omega
        · have hk1 : k = 1 := by omega
          have := HK1.out hk1
          rw [hk1] at HRD
          rw [HRD.out] at this
          injection this with h1 _
          exact absurd h1 hes
      have hnx : rdR (nowF D 44) (first + 1) (D.n - 44) 0 [] [] 0 = ([], 0) := by
        rcases empty_or (nowF D 44) first (D.n - 44) with ⟨h1, _⟩ | h1
        · rw [hk0, Nat.add_zero] at HRD
          rw [HRD.out] at h1
          exact absurd h1 hes
        · exact h1
      have HNX := Lib.hid hnx
      have hl0 : ((es.length : Int) == 0) = false := by
        rw [beq_eq_false_iff_ne]
        have : es.length ≠ 0 := fun e => hes (List.eq_nil_of_length_eq_zero e)
        omega
      have HK0 := Lib.hid hk0
      clear hnx hes hk0
      go_wp2
      go_roundw
      case rel => exact ⟨1, by omega, by rw [HK0.out]; go_num, fun _ => HNX.out, HB2.out⟩
      case measure => simp [intOf]; have := HK0.out; omega
end Go.Proofs.Ytgkenknplepmeaa
namespace Go.Proofs.Ytgkenknplepmeaa
open Go.RowKit Go.Sort

theorem numF_succ (n i : Nat) : numF n (i + 1) = numF (n / 256) i := by
  unfold numF
  rw [Nat.pow_succ, Nat.mul_comm, ← Nat.div_div_eq_div_mul]
theorem ofL_num : ∀ (k n : Nat), n < 256 ^ k → ofL ((List.range k).map (numF n)) = n
  | 0, n, h => by
    have : n = 0 := by simpa using h
    subst this
    rfl
  | k + 1, n, h => by
    rw [List.range_succ_eq_map, List.map_cons, List.map_map]
    have e : (numF n ∘ Nat.succ) = numF (n / 256) := funext fun i => numF_succ n i
    rw [e]
    unfold ofL
    rw [ofL_num k (n / 256) (by rw [Nat.pow_succ] at h; omega)]
    have h0 : (numF n 0).toNat = n % 256 := by
      unfold numF
      rw [UInt8.toNat_ofNat_of_lt' (by show _ < 256; exact Nat.mod_lt _ (by omega))]
      simp
    rw [h0]
    omega
theorem hdR_list (a z f : Nat) : (hdR a z f).data.toList = magR.data.toList ++ (numR a 1).data.toList ++ (numR z 2).data.toList ++ (numR f 8).data.toList := by
  unfold hdR
  simp [ByteArray.data_append]
def zT : List UInt8 := List.replicate 319 0
theorem zT_len : zT.length = 319 := by unfold zT; rw [List.length_replicate]
theorem padH_list (a z f : Nat) : (padB (hdR a z f)).data.toList = magR.data.toList ++ (numR a 1).data.toList ++ (numR z 2).data.toList ++ (numR f 8).data.toList ++ zT := by
  rw [padB_list, hdR_size, hdR_list]
  rfl
theorem mag_len : magR.data.toList.length = 10 := rfl
theorem head_pre (a z f : Nat) : preB magR (padB (hdR a z f)) = true := by
  have hs : (padB (hdR a z f)).size = 340 := padB_size (by rw [hdR_size]; omega)
  have e : (padB (hdR a z f)).extract 0 10 = magR := list_eq (by
    rw [extract_list, padH_list]
    have := take_mid [] magR.data.toList ((numR a 1).data.toList ++ ((numR z 2).data.toList ++ ((numR f 8).data.toList ++ zT))) 0 10 rfl mag_len
    simpa [List.append_assoc] using this)
  unfold preB
  rw [hs, show magR.size = 10 from rfl, e]
  simp
/-- What stands behind the magic. -/
def hrR (a z f : Nat) : ByteArray := (padB (hdR a z f)).extract 10 340
theorem hrR_list (a z f : Nat) : (hrR a z f).data.toList = (numR a 1).data.toList ++ (numR z 2).data.toList ++ (numR f 8).data.toList ++ zT := by
  unfold hrR
  rw [extract_list, padH_list]
  have := take_mid magR.data.toList ((numR a 1).data.toList ++ ((numR z 2).data.toList ++ ((numR f 8).data.toList ++ zT))) [] 10 330 mag_len (by simp only [List.length_append, len_list, numR_size, zT_len])
  simpa [List.append_assoc] using this
theorem hrR_size (a z f : Nat) : (hrR a z f).size = 330 := by
  rw [← len_list, hrR_list]
  simp only [List.length_append, len_list, numR_size, zT_len]
theorem hr_a (a z f : Nat) (h : a ≤ 1) : ofL ((hrR a z f).extract 0 1).data.toList = a := by
  have e : ((hrR a z f).extract 0 1).data.toList = (List.range 1).map (numF a) := by
    rw [extract_list, hrR_list, ← numR_list]
    have := take_mid [] (numR a 1).data.toList ((numR z 2).data.toList ++ ((numR f 8).data.toList ++ zT)) 0 1 rfl (by rw [len_list, numR_size])
    simpa [List.append_assoc] using this
  rw [e, ofL_num 1 a (by omega)]
theorem hr_z (a z f : Nat) (h : z < 65536) : ofL ((hrR a z f).extract 1 3).data.toList = z := by
  have e : ((hrR a z f).extract 1 3).data.toList = (List.range 2).map (numF z) := by
    rw [extract_list, hrR_list, ← numR_list]
    have := take_mid (numR a 1).data.toList (numR z 2).data.toList ((numR f 8).data.toList ++ zT) 1 2 (by rw [len_list, numR_size]) (by rw [len_list, numR_size])
    simpa [List.append_assoc] using this
  rw [e, ofL_num 2 z (by omega)]
theorem hr_f (a z f : Nat) (h : f < 2 ^ 63) : ofL ((hrR a z f).extract 3 11).data.toList = f := by
  have e : ((hrR a z f).extract 3 11).data.toList = (List.range 8).map (numF f) := by
    rw [extract_list, hrR_list, ← numR_list]
    have := take_mid ((numR a 1).data.toList ++ (numR z 2).data.toList) (numR f 8).data.toList (zT) 3 8 (by rw [List.length_append, len_list, len_list, numR_size, numR_size]) (by rw [len_list, numR_size])
    simpa [List.append_assoc] using this
  rw [e, ofL_num 8 f (by omega)]
set_option maxHeartbeats 1000000 in
set_option maxRecDepth 100000 in
theorem readHead_good (base p B a z f : Nat) (V : Nat → Value) (D : Dk) (w : World) (hd : DkAt w base p B V D) (hdn : D.down = false) (hn : 50 ≤ D.n) (h0 : nowB (D.sec 0) = padB (hdR a z f)) (ha : a ≤ 1) (hz : z ≤ 7140) (hf1 : 1 ≤ f) (hf : f ≤ 1000000000000) :
    Calls Try.prog 79 #[ptr p] w fun e w' => e = .returned (.tuple #[.agg #[.int .i64 a, .int .i64 z, .int .i64 f], .nilIface]) ∧ Below w.heap.size w w' := by
  have hr := fun W (hW : Below w.heap.size w W) => read_any base p B V D ((0 : Nat) : Int) W (hd.keep fun _ _ hk => hW.block _ hk)
  simp only [readR_up hdn (show 0 < D.n by omega), h0, show erV 0 = .nilIface from rfl] at hr
  simp only [show ((0 : Nat) : Int) = 0 from rfl] at hr
  have hse := fun W (hW : Below w.heap.size w W) => sectors_any base p B V D W (hd.keep fun _ _ hk => hW.block _ hk)
  have HCP := Lib.hid (fun W => cutPrefix_any (padB (hdR a z f)) magR W)
  have hs : (padB (hdR a z f)).size = 340 := padB_size (by rw [hdR_size]; omega)
  have hcv : cutV magR (padB (hdR a z f)) = .tuple #[.string (hrR a z f), .bool true] := by
    unfold cutV hrR
    rw [head_pre, hs]
    rfl
  rw [hcv] at HCP
  have hrs := hrR_size a z f
  have HO0 : Hid (∀ W : World, Calls Try.prog 99 #[.string ((hrR a z f).extract 0 1)] W fun e w' => e = .returned (.int .u64 ((a : Nat) : Int)) ∧ w' = W) := fun W => by
    have := numberOf_any ((hrR a z f).extract 0 1) W (by rw [ByteArray.size_extract]; omega)
    rw [hr_a a z f ha] at this
    exact this
  have HO1 : Hid (∀ W : World, Calls Try.prog 99 #[.string ((hrR a z f).extract 1 3)] W fun e w' => e = .returned (.int .u64 ((z : Nat) : Int)) ∧ w' = W) := fun W => by
    have := numberOf_any ((hrR a z f).extract 1 3) W (by rw [ByteArray.size_extract]; omega)
    rw [hr_z a z f (by omega)] at this
    exact this
  have HO2 : Hid (∀ W : World, Calls Try.prog 99 #[.string ((hrR a z f).extract 3 11)] W fun e w' => e = .returned (.int .u64 ((f : Nat) : Int)) ∧ w' = W) := fun W => by
    have := numberOf_any ((hrR a z f).extract 3 11) W (by rw [ByteArray.size_extract]; omega)
    rw [hr_f a z f (by omega)] at this
    exact this
  generalize padB (hdR a z f) = S at *
  generalize hrR a z f = R at *
  have HR := Lib.hid hr
  have HSE := Lib.hid hse
  clear hr hse hd hcv h0
  unfold magR at HCP
  unfold ptr at *
  have HBA := Lib.hid (show Below w.heap.size w (w.alloc (.cells #[.int .i64 0, .int .i64 0, .int .i64 0] tHd)) from (Below.refl _ _).alloc (Nat.le_refl _) _)
  have HKA := Lib.hid (Blk.new w tHd #[.int .i64 0, .int .i64 0, .int .i64 0])
  have l1 : (1 : Int) ≤ (R.size : Int) := by omega
  have l3 : (3 : Int) ≤ (R.size : Int) := by omega
  have l11 : (11 : Int) ≤ (R.size : Int) := by omega
  have m1 : 1 ≤ R.size := by omega
  have m3 : 3 ≤ R.size := by omega
  have m11 : 11 ≤ R.size := by omega
  have n50 : decide ((D.n : Int) < 50) = false := decide_eq_false (by omega)
  have n50n : decide (D.n < 50) = false := decide_eq_false (by omega)
  go_enter Try.func79, Try.ntmps79
  go_wp2_with fail
  refine (HR.out _ HBA.out).mono ?_
  rintro e w2 ⟨rfl, hb2⟩
  have HB2 := Lib.hid (HBA.out.trans (hb2.mono HBA.out.size))
  have HK2 : Hid (Blk w2 w.heap.size tHd #[.int .i64 0, .int .i64 0, .int .i64 0]) := (hb2.block _ HKA.out.lt).trans HKA.out
  clear hb2 HR HKA HBA
  go_wp2_with fail
  refine (HCP.out _).mono ?_
  rintro e w3 ⟨rfl, rfl⟩
  go_wp2_with fail
  refine (HSE.out _ HB2.out).mono ?_
  rintro e w3 ⟨rfl, rfl⟩
  go_wp2_with fail
  have wa : IntKind.i64.wrap (a : Int) = (a : Int) := by rw [IntKind.wrap_i64]; omega
  have wz : IntKind.i64.wrap (z : Int) = (z : Int) := by rw [IntKind.wrap_i64]; omega
  have wf : IntKind.i64.wrap (f : Int) = (f : Int) := by rw [IntKind.wrap_i64]; omega
  have r0 := HK2.out.cell 0
  have r1 := HK2.out.cell 1
  have r2 := HK2.out.cell 2
  have f0 := HK2.out.free 0
  have f1 := HK2.out.free 1
  have f2 := HK2.out.free 2
  have hlt2 : w.heap.size < w2.heap.size := HK2.out.lt
  have hbs : ∀ (o : Nat) (v : Value) (X : World), Below w.heap.size w X → Below w.heap.size w (X.setCell ⟨w.heap.size, o, none⟩ v) := fun o v X h => h.setCell (Nat.le_refl _) v
  have HBS := Lib.hid hbs
  have HB3 : Hid (∀ a1 b1 c1 : Value, Below w.heap.size w ((((w2.setCell ⟨w.heap.size, 0, none⟩ a1).setCell ⟨w.heap.size, 1, none⟩ b1).setCell ⟨w.heap.size, 2, none⟩ c1).alloc (.cells #[.int .i64 a, .int .i64 z, .int .i64 f] tHd)).drew) := fun a1 b1 c1 => ((HBS.out _ _ _ (HBS.out _ _ _ (HBS.out _ _ _ HB2.out))).alloc (HBS.out _ _ _ (HBS.out _ _ _ (HBS.out _ _ _ HB2.out))).size _).drew
  have a1 : decide ((1 : Int) < (a : Int)) = false := decide_eq_false (by omega)
  have a2 : decide ((7140 : Int) < (z : Int)) = false := decide_eq_false (by omega)
  have a3 : decide ((f : Int) < 1) = false := decide_eq_false (by omega)
  have a1n : decide (1 < a) = false := decide_eq_false (by omega)
  have a2n : decide (7140 < z) = false := decide_eq_false (by omega)
  have a3n : decide (f < 1) = false := decide_eq_false (by omega)
  have a4n : decide (f = 0) = false := decide_eq_false (by omega)
  have hx := Blk.new w2 tHd #[.int .i64 a, .int .i64 z, .int .i64 f]
  have x0 := hx.cell 0
  have x1 := hx.cell 1
  have x2 := hx.cell 2
  clear hx hbs HSE HCP
  go_region_with (first | (go_at_call 99; (with_reducible refine (HO0.out _).mono ?_); rintro e wq ⟨rfl, rfl⟩) | (go_at_call 99; (with_reducible refine (HO1.out _).mono ?_); rintro e wq ⟨rfl, rfl⟩) | (go_at_call 99; (with_reducible refine (HO2.out _).mono ?_); rintro e wq ⟨rfl, rfl⟩))
  all_goals (
    clear HO0 HO1 HO2
    go_wp2
    (try simp only [Exit.inBlock, Exit.then])
    refine bodyPost_ret (v := .tuple #[.agg #[.int .i64 a, .int .i64 z, .int .i64 f], .nilIface]) ?_ rfl ⟨rfl, ?_⟩
    · rw [results_cell_tmp rfl]
      go_simp
    · exact HB3.out _ _ _)
end Go.Proofs.Ytgkenknplepmeaa
namespace Go.Proofs.Ytgkenknplepmeaa
open Go.RowKit Go.Sort

set_option maxHeartbeats 1000000 in
set_option maxRecDepth 100000 in
theorem readHead_bad (base p B : Nat) (V : Nat → Value) (D : Dk) (w : World) (hd : DkAt w base p B V D) (hdn : D.down = false) (hn : 1 ≤ D.n) (h0 : preB magR (nowB (D.sec 0)) = false) :
    Calls Try.prog 79 #[ptr p] w fun e w' => e = .returned (.tuple #[.agg #[.int .i64 0, .int .i64 0, .int .i64 0], .iface 96 (.int .i64 4)]) ∧ Below w.heap.size w w' := by
  have hr := fun W (hW : Below w.heap.size w W) => read_any base p B V D ((0 : Nat) : Int) W (hd.keep fun _ _ hk => hW.block _ hk)
  simp only [readR_up hdn (show 0 < D.n by omega), show erV 0 = .nilIface from rfl] at hr
  simp only [show ((0 : Nat) : Int) = 0 from rfl] at hr
  have HCP := Lib.hid (fun W => cutPrefix_any (nowB (D.sec 0)) magR W)
  have hcv : cutV magR (nowB (D.sec 0)) = .tuple #[.string (nowB (D.sec 0)), .bool false] := by
    unfold cutV
    rw [h0]
    rfl
  rw [hcv] at HCP
  generalize nowB (D.sec 0) = S at *
  have HR := Lib.hid hr
  clear hr hd hcv h0
  unfold magR at HCP
  unfold ptr at *
  have HBA := Lib.hid (show Below w.heap.size w (w.alloc (.cells #[.int .i64 0, .int .i64 0, .int .i64 0] tHd)) from (Below.refl _ _).alloc (Nat.le_refl _) _)
  have HKA := Lib.hid (Blk.new w tHd #[.int .i64 0, .int .i64 0, .int .i64 0])
  go_enter Try.func79, Try.ntmps79
  go_wp2_with fail
  refine (HR.out _ HBA.out).mono ?_
  rintro e w2 ⟨rfl, hb2⟩
  have HB2 := Lib.hid (HBA.out.trans (hb2.mono HBA.out.size))
  have HK2 : Hid (Blk w2 w.heap.size tHd #[.int .i64 0, .int .i64 0, .int .i64 0]) := (hb2.block _ HKA.out.lt).trans HKA.out
  clear hb2 HR HKA HBA
  have r0 := HK2.out.cell 0
  have r1 := HK2.out.cell 1
  have r2 := HK2.out.cell 2
  have f0 := HK2.out.free 0
  have f1 := HK2.out.free 1
  have f2 := HK2.out.free 2
  have hbs : ∀ (o : Nat) (v : Value) (X : World), Below w.heap.size w X → Below w.heap.size w (X.setCell ⟨w.heap.size, o, none⟩ v) := fun o v X h => h.setCell (Nat.le_refl _) v
  have HBS := Lib.hid hbs
  clear hbs
  go_wp2_with fail
  refine (HCP.out _).mono ?_
  rintro e w3 ⟨rfl, rfl⟩
  go_wp2
  (try simp only [Exit.inBlock, Exit.then])
  refine bodyPost_ret (v := .tuple #[.agg #[.int .i64 0, .int .i64 0, .int .i64 0], .iface 96 (.int .i64 4)]) ?_ rfl ⟨rfl, ?_⟩
  · rw [results_cell_tmp rfl]
    go_simp
  · first | exact HBS.out _ _ _ (HBS.out _ _ _ (HBS.out _ _ _ HB2.out)) | exact HB2.out
end Go.Proofs.Ytgkenknplepmeaa
