/-
  PLAIN: rows as bytes, and cut again. WALK: store.parseRows of the bytes of rows.
-/
import Derived.Test.YtgkenknplepmeaaTlA
namespace Go.Proofs.Ytgkenknplepmeaa
open Go.RowKit Go.Sort

set_option maxHeartbeats 400000 in
theorem logSectors_any (base p B : Nat) (V : Nat → Value) (D : Dk) (w : World) (h : DkAt w base p B V D) :
    Calls Try.prog 81 #[ptr p] w fun e w' => e = .returned (.int .i64 ((D.n : Int) - 44)) ∧ w = w' := by
  have HS := Lib.hid (sectors_any base p B V D w h)
  have hn := h.n2
  clear h
  unfold ptr at *
  go_enter Try.func81, Try.ntmps81
  go_wp2_with fail
  refine HS.out.mono ?_
  rintro e w1 ⟨rfl, rfl⟩
  go_wp2
  go_ret
  exact ⟨rfl, rfl⟩
set_option maxHeartbeats 400000 in
theorem areaAt_any (a : Nat) (w : World) (ha : a ≤ 1) : Calls Try.prog 100 #[.int .i64 a] w fun e w' => e = .returned (.int .i64 ((1 + a * 21 : Nat) : Int)) ∧ w = w' := by
  go_enter Try.func100, Try.ntmps100
  go_wp2
  go_ret
  have e1 : (1 : Int) + (a : Int) * 21 = ((1 + a * 21 : Nat) : Int) := by omega
  exact ⟨by rw [← e1]; rfl, rfl⟩
/-- The head of a store. -/
def magR : ByteArray := ⟨#[104, 97, 109, 109, 101, 114, 112, 111, 110, 100]⟩
def hdR (area size first : Nat) : ByteArray := magR ++ numR area 1 ++ numR size 2 ++ numR first 8
abbrev tHd : TypeId := 130
theorem hdR_size (a s f : Nat) : (hdR a s f).size = 21 := by
  unfold hdR
  rw [← len_list]
  simp only [ByteArray.data_append, Array.toList_append, List.length_append, len_list, numR_size]
  rfl
theorem u64_nat (n : Nat) (h : n < 2 ^ 63) : IntKind.u64.wrap (n : Int) = (n : Int) := by
  unfold IntKind.wrap
  simp [IntKind.bits, IntKind.signed]
  omega
set_option maxHeartbeats 1000000 in
set_option maxRecDepth 100000 in
theorem writeHead_any (base p B a s f : Nat) (V : Nat → Value) (D : Dk) (w : World) (hd : DkAt w base p B V D) (hw : WOk D 1) (ha : a ≤ 1) (hs : s ≤ 100000) (hf : f ≤ 1000000000000) :
    Calls Try.prog 84 #[ptr p, .agg #[.int .i64 a, .int .i64 s, .int .i64 f]] w (WrPost w base p B D 0 [hdR a s f]) := by
  have mixed : Try.prog.follows .mixedOrders = true := by kernel_rfl
  have hn1 := hd.n1
  have HD := Lib.hid hd
  have HW := Lib.hid hw
  have hbx := Blk.new w tHd #[.int .i64 a, .int .i64 s, .int .i64 f]
  have x0 := hbx.cell 0
  have x1 := hbx.cell 1
  have x2 := hbx.cell 2
  have u0 := u64_nat a (by omega)
  have u1 := u64_nat s (by omega)
  have u2 := u64_nat f (by omega)
  have hsz := hdR_size a s f
  have hhd : hdR a s f = magR ++ numR a 1 ++ numR s 2 ++ numR f 8 := rfl
  unfold magR at hhd
  have HHD := Lib.hid hhd
  have HSZ := Lib.hid hsz
  clear hd hw hbx hhd hsz
  generalize hdR a s f = S at *
  obtain ⟨N0, g0⟩ : ∃ N0, N0 = numR a 1 := ⟨_, rfl⟩
  obtain ⟨N1, g1⟩ : ∃ N1, N1 = numR s 2 := ⟨_, rfl⟩
  obtain ⟨N2, g2⟩ : ∃ N2, N2 = numR f 8 := ⟨_, rfl⟩
  rw [← g0, ← g1, ← g2] at HHD
  have HG0 := Lib.hid g0
  have HG1 := Lib.hid g1
  have HG2 := Lib.hid g2
  clear g0 g1 g2
  have y0 : N0.size = 1 := by rw [HG0.out]; exact numR_size _ _
  have y1 : N1.size = 2 := by rw [HG1.out]; exact numR_size _ _
  have y2 : N2.size = 8 := by rw [HG2.out]; exact numR_size _ _
  have ym : (⟨#[104, 97, 109, 109, 101, 114, 112, 111, 110, 100]⟩ : ByteArray).size = 10 := rfl
  have t1 : Op.stringOp .add ⟨#[104, 97, 109, 109, 101, 114, 112, 111, 110, 100]⟩ N0 = pure (.string (⟨#[104, 97, 109, 109, 101, 114, 112, 111, 110, 100]⟩ ++ N0)) := by unfold Op.stringOp; simp [IntKind.max, IntKind.signed, IntKind.bits]; omega
  have t2 : Op.stringOp .add (⟨#[104, 97, 109, 109, 101, 114, 112, 111, 110, 100]⟩ ++ N0) N1 = pure (.string (⟨#[104, 97, 109, 109, 101, 114, 112, 111, 110, 100]⟩ ++ N0 ++ N1)) := by unfold Op.stringOp; simp [IntKind.max, IntKind.signed, IntKind.bits]; omega
  have t3 : Op.stringOp .add (⟨#[104, 97, 109, 109, 101, 114, 112, 111, 110, 100]⟩ ++ N0 ++ N1) N2 = pure (.string (⟨#[104, 97, 109, 109, 101, 114, 112, 111, 110, 100]⟩ ++ N0 ++ N1 ++ N2)) := by unfold Op.stringOp; simp [IntKind.max, IntKind.signed, IntKind.bits]; omega
  clear y0 y1 y2 ym
  have HDx := Lib.hid (HD.out.keep (w' := w.alloc (.cells #[.int .i64 a, .int .i64 s, .int .i64 f] tHd)) fun _ _ hk => Below.heap_alloc _ _ _ hk)
  have hbs : base ≤ w.heap.size := by have := HD.out.ltp; have := HD.out.hp; omega
  have HBx := Lib.hid ((Below.refl base w).alloc hbs (.cells #[.int .i64 a, .int .i64 s, .int .i64 f] tHd))
  have HTx := Lib.hid (Ty.alloc w (.cells #[.int .i64 a, .int .i64 s, .int .i64 f] tHd))
  have hlt : w.heap.size < (w.alloc (.cells #[.int .i64 a, .int .i64 s, .int .i64 f] tHd)).heap.size := by simp
  unfold ptr
  go_enter Try.func84, Try.ntmps84
  go_wp2_with fail
  generalize w.alloc (.cells #[.int .i64 a, .int .i64 s, .int .i64 f] tHd) = w1 at *
  have X0 : ∀ q os, (grow (w1.drewN q) os).cell? ⟨w.heap.size, 0, none⟩ = some (.int .i64 a) := fun q os => (cell?_grow _ _ ⟨w.heap.size, 0, none⟩ hlt).trans x0
  have X1 : ∀ q os, (grow (w1.drewN q) os).cell? ⟨w.heap.size, 1, none⟩ = some (.int .i64 s) := fun q os => (cell?_grow _ _ ⟨w.heap.size, 1, none⟩ hlt).trans x1
  have X2 : ∀ q os, (grow (w1.drewN q) os).cell? ⟨w.heap.size, 2, none⟩ = some (.int .i64 f) := fun q os => (cell?_grow _ _ ⟨w.heap.size, 2, none⟩ hlt).trans x2
  have HN0 : ∀ q os, Calls Try.prog 67 #[.int .u64 a, .int .i64 1] (grow (w1.drewN q) os) fun e w' => e = .returned (.string N0) ∧ ∃ q' os', w' = grow ((grow (w1.drewN q) os).drewN q') os' := fun q os => by rw [HG0.out]; exact number_all a 1 _ (by omega) (by omega)
  have HN1 : ∀ q os, Calls Try.prog 67 #[.int .u64 s, .int .i64 2] (grow (w1.drewN q) os) fun e w' => e = .returned (.string N1) ∧ ∃ q' os', w' = grow ((grow (w1.drewN q) os).drewN q') os' := fun q os => by rw [HG1.out]; exact number_all s 2 _ (by omega) (by omega)
  have HN2 : ∀ q os, Calls Try.prog 67 #[.int .u64 f, .int .i64 8] (grow (w1.drewN q) os) fun e w' => e = .returned (.string N2) ∧ ∃ q' os', w' = grow ((grow (w1.drewN q) os).drewN q') os' := fun q os => by rw [HG2.out]; exact number_all f 8 _ (by omega) (by omega)
  refine wp_region_quiet_grown (by assumption) (by kernel_rfl) ?_
  repeat (go_big_quiet_step (first | (go_at_call 67; (with_reducible refine Calls.grown_of (HN0 _ _))) | (go_at_call 67; (with_reducible refine Calls.grown_of (HN1 _ _))) | (go_at_call 67; (with_reducible refine Calls.grown_of (HN2 _ _)))))
  refine wpQuiet_nil ?_
  intro _ hw'
  obtain ⟨⟨nq, osq⟩, hw''⟩ := hw'
  subst hw''
  have hgb : Below w1.heap.size w1 (grow (w1.drewN nq) osq) := Grw.below ⟨nq, osq, rfl⟩
  have HD2 := Lib.hid (HDx.out.keep fun _ _ hk => hgb.block _ hk)
  have HB2 := Lib.hid (HBx.out.trans (hgb.mono (by omega)))
  have HT2 := Lib.hid (HTx.out.trans (Ty.of_below hgb))
  clear hgb HN0 HN1 HN2 X0 X1 X2 HDx HBx HTx x0 x1 x2 u0 u1 u2 t1 t2 t3
  generalize grow (w1.drewN nq) osq = w2 at *
  rw [← HHD.out]
  have hkD : 0 < D.n := by omega
  have hwr := write_good base p B 0 V D S w2 HD2.out (by rw [HSZ.out]; omega) hkD HW.out.left (fun x hx => by have := HW.out.bit 0 hkD x hx; omega) (by have := HW.out.len 0 hkD; have := HW.out.next; omega)
  unfold ptr at hwr
  have hsp := writeR_cases (s := S) hkD (by rw [HSZ.out]; omega)
  rw [show ((0 : Nat) : Int) = 0 from rfl] at hwr hsp
  rcases hsp with hsp | ⟨_, lf, _, hsp⟩
  · rw [hsp] at hwr
    rw [show erV (({ D with down := true } : Dk), (11 : Int)).2 = .iface 96 (.int .i64 11) from rfl] at hwr
    have HWR := Lib.hid hwr
    have HRR : Hid (wrL D 0 [S] = ({ D with down := true }, 11)) := by show _ = _; rw [wrL, show ((0 : Nat) : Int) = 0 from rfl, hsp, if_pos (by simp)]
    clear hwr hsp
    go_wp2_with fail
    refine HWR.out.mono ?_
    rintro e w3 ⟨rfl, hd3, hb3, ht3⟩
    have HD3 := Lib.hid hd3
    have HB3 := Lib.hid (HB2.out.trans hb3)
    have HT3 := Lib.hid (HT2.out.trans ht3)
    clear hd3 hb3 ht3 HWR
    go_wp2
    go_ret
    exact ⟨by rw [HRR.out]; rfl, by rw [HRR.out]; exact HD3.out, HB3.out, HT3.out⟩
  · have hok := HW.out.write (n := 0) (k := 0) (s := S) (by rw [HSZ.out]; omega) hkD (by rw [show ((0 : Nat) : Int) = 0 from rfl, hsp])
    rw [show ((0 : Nat) : Int) = 0 from rfl, hsp] at hok
    rw [hsp] at hwr
    obtain ⟨D1, hD1⟩ : ∃ D1 : Dk, D1 = { D with left := lf, sec := updS D.sec 0 ⟨(D.sec 0).dur, (D.sec 0).ws ++ [(D.next, padB S)]⟩, next := (D.next + 1) % 64 } := ⟨_, rfl⟩
    rw [← hD1] at hwr hok hsp
    have HRR : Hid (wrL D 0 [S] = flushR D1) := by show _ = _; rw [wrL, show ((0 : Nat) : Int) = 0 from rfl, hsp, if_neg (by simp)]; rfl
    rw [show erV (D1, (0 : Int)).2 = .nilIface from rfl] at hwr
    have HWR := Lib.hid hwr
    have HOK := Lib.hid hok
    clear hwr hok hsp hD1
    go_wp2_with fail
    refine HWR.out.mono ?_
    rintro e w3 ⟨rfl, hd3, hb3, ht3⟩
    obtain ⟨V3, hd3⟩ := hd3
    have HB3 := Lib.hid (HB2.out.trans hb3)
    have HT3 := Lib.hid (HT2.out.trans ht3)
    have hfl := flush_any base p B V3 D1 w3 hd3 HOK.out.left (fun i hi => by have := HOK.out.len i hi; have := HOK.out.next; omega)
    unfold ptr at hfl
    obtain ⟨R, hR⟩ : ∃ R, R = flushR D1 := ⟨_, rfl⟩
    rw [← hR] at hfl HRR
    obtain ⟨E, hE⟩ : ∃ E, E = erV R.2 := ⟨_, rfl⟩
    rw [← hE] at hfl
    have HFL := Lib.hid hfl
    have HE := Lib.hid hE
    clear hd3 hb3 ht3 HWR hfl hR hE
    go_wp2_with fail
    refine HFL.out.mono ?_
    rintro e w4 ⟨rfl, hd4, hb4, ht4⟩
    have HD4 := Lib.hid hd4
    have HB4 := Lib.hid (HB3.out.trans hb4)
    have HT4 := Lib.hid (HT3.out.trans ht4)
    clear hd4 hb4 ht4 HFL
    go_wp2
    go_ret
    exact ⟨by rw [HRR.out, ← HE.out]; rfl, by rw [HRR.out]; exact HD4.out, HB4.out, HT4.out⟩
end Go.Proofs.Ytgkenknplepmeaa
namespace Go.Proofs.Ytgkenknplepmeaa
open Go.RowKit Go.Sort

/-- The length that bytes of a row tell. -/
def lnR (s : ByteArray) : Nat := ofL (s.extract 0 2).data.toList
def crB (s : ByteArray) : Bool := decide (2 ≤ s.size) && (decide (2 + lnR s ≤ s.size) && parB (s.extract 2 (2 + lnR s)))
def crV (s : ByteArray) : Value := if crB s then .tuple #[.agg #[.string (parCh (s.extract 2 (2 + lnR s))).key, .string (parCh (s.extract 2 (2 + lnR s))).val, .bool (parCh (s.extract 2 (2 + lnR s))).gone], .string (s.extract (2 + lnR s) s.size), .nilIface] else .tuple #[zeroC, .string ⟨#[]⟩, .iface 96 (.int .i64 4)]
theorem lnR_lt (s : ByteArray) : lnR s < 65536 := by
  unfold lnR
  have h := ofL_lt (s.extract 0 2).data.toList
  have h2 : (s.extract 0 2).data.toList.length ≤ 2 := by rw [len_list, ByteArray.size_extract]; omega
  have h3 : 256 ^ (s.extract 0 2).data.toList.length ≤ 256 ^ 2 := Nat.pow_le_pow_right (by omega) h2
  omega
set_option maxHeartbeats 1000000 in
set_option maxRecDepth 100000 in
theorem cutRow_any (s : ByteArray) (w : World) (hs : s.size ≤ 1000000) : Calls Try.prog 114 #[.string s] w fun e w' => e = .returned (crV s) ∧ Below w.heap.size w w' := by
  unfold crV crB
  by_cases h2 : s.size < 2
  · have d2 : (s.size : Int) < 2 := by omega
    rw [decide_eq_false (show ¬ 2 ≤ s.size by omega)]
    simp only [Bool.false_and, Bool.false_eq_true, if_false]
    unfold zeroC
    go_enter Try.func114, Try.ntmps114
    go_wp2
    (try simp only [Exit.inBlock, Exit.then])
    refine bodyPost_ret (v := .tuple #[.agg #[.string ByteArray.empty, .string ByteArray.empty, .bool false], .string ⟨#[]⟩, .iface 96 (.int .i64 4)]) ?_ rfl ⟨rfl, (Below.refl _ _).alloc (Nat.le_refl _) _⟩
    simp [results, Try.f114, go_sem]
    rfl
  rw [decide_eq_true (show 2 ≤ s.size by omega)]
  simp only [Bool.true_and]
  have d2 : decide ((s.size : Int) < 2) = false := decide_eq_false (by omega)
  have l2 : (2 : Int) ≤ (s.size : Int) := by omega
  have m2 : 2 ≤ s.size := by omega
  have hnl := lnR_lt s
  have HOF : Hid (∀ W : World, Calls Try.prog 99 #[.string (s.extract 0 2)] W fun e w' => e = .returned (.int .u64 ((lnR s : Nat) : Int)) ∧ w' = W) := fun W => numberOf_any (s.extract 0 2) W (by rw [ByteArray.size_extract]; omega)
  generalize lnR s = n at *
  have hwr : IntKind.i64.wrap (n : Int) = (n : Int) := by rw [IntKind.wrap_i64]; omega
  have hwr2 : IntKind.i64.wrap (2 + (n : Int)) = 2 + (n : Int) := by rw [IntKind.wrap_i64]; omega
  by_cases hn : s.size < 2 + n
  · have dn : (s.size : Int) < 2 + (n : Int) := by omega
    rw [decide_eq_false (show ¬ 2 + n ≤ s.size by omega)]
    simp only [Bool.false_and, Bool.false_eq_true, if_false]
    unfold zeroC
    go_enter Try.func114, Try.ntmps114
    go_wp2_with fail
    refine (HOF.out _).mono ?_
    rintro e w1 ⟨rfl, rfl⟩
    go_wp2
    (try simp only [Exit.inBlock, Exit.then])
    refine bodyPost_ret (v := .tuple #[.agg #[.string ByteArray.empty, .string ByteArray.empty, .bool false], .string ⟨#[]⟩, .iface 96 (.int .i64 4)]) ?_ rfl ⟨rfl, (Below.refl _ _).alloc (Nat.le_refl _) _⟩
    simp [results, Try.f114, go_sem]
    rfl
  rw [decide_eq_true (show 2 + n ≤ s.size by omega)]
  simp only [Bool.true_and]
  have dn : decide ((s.size : Int) < 2 + (n : Int)) = false := decide_eq_false (by omega)
  have t1 : (2 + (n : Int)).toNat = 2 + n := by omega
  have t2 : (2 : Int) ≤ 2 + (n : Int) := by omega
  have t3 : 2 + (n : Int) ≤ (s.size : Int) := by omega
  have t4 : (0 : Int) ≤ 2 + (n : Int) := by omega
  have HPA := Lib.hid (fun W => parse_any (s.extract 2 (2 + n)) W (by rw [ByteArray.size_extract]; omega))
  simp only [parV_eq] at HPA
  have HBA := Lib.hid (show Below w.heap.size w (w.alloc (.cells #[.string ⟨#[]⟩, .string ⟨#[]⟩, .bool false] tCh)) from (Below.refl _ _).alloc (Nat.le_refl _) _)
  have HKA := Lib.hid (Blk.new w tCh #[.string ⟨#[]⟩, .string ⟨#[]⟩, .bool false])
  have hlt : w.heap.size < (w.alloc (.cells #[.string ⟨#[]⟩, .string ⟨#[]⟩, .bool false] tCh)).heap.size := by simp
  generalize hp9 : parCh (s.extract 2 (2 + n)) = p9 at *
  clear hp9
  by_cases hpb : parB (s.extract 2 (2 + n)) = true
  · have hpn : parN (s.extract 2 (2 + n)) = 0 := by unfold parN; rw [if_pos hpb]
    rw [hpn, show erV 0 = .nilIface from rfl] at HPA
    rw [hpb]
    simp only [if_true]
    clear hpn hpb
    go_enter Try.func114, Try.ntmps114
    go_wp2_with fail
    refine (HOF.out _).mono ?_
    rintro e w1 ⟨rfl, rfl⟩
    go_wp2_with fail
    refine (HPA.out _).mono ?_
    rintro e w2 ⟨rfl, hb2⟩
    have hk2 : Blk w2 w.heap.size tCh #[.string ⟨#[]⟩, .string ⟨#[]⟩, .bool false] := (hb2.block _ hlt).trans HKA.out
    have hx := StC.new w2 p9.key p9.val p9.gone tCh
    have x0 := hx.c0
    have x1 := hx.c1
    have x2 := hx.c2
    have r0 := hk2.cell 0
    have r1 := hk2.cell 1
    have r2 := hk2.cell 2
    have f0 := hk2.free 0
    have f1 := hk2.free 1
    have f2 := hk2.free 2
    have hlt2 : w.heap.size < w2.heap.size := hk2.lt
    have HB2 := Lib.hid (HBA.out.trans (hb2.mono HBA.out.size))
    have hbs : ∀ (o : Nat) (v : Value) (X : World), Below w.heap.size w X → Below w.heap.size w (X.setCell ⟨w.heap.size, o, none⟩ v) := fun o v X h => h.setCell (Nat.le_refl _) v
    have HBS := Lib.hid hbs
    clear hx hk2 hb2 HPA HOF hbs
    go_wp2_with fail
    have HB3 : Hid (∀ a b c : Value, Below w.heap.size w ((((w2.setCell ⟨w.heap.size, 0, none⟩ a).setCell ⟨w.heap.size, 1, none⟩ b).setCell ⟨w.heap.size, 2, none⟩ c).alloc (.cells #[.string p9.key, .string p9.val, .bool p9.gone] tCh)).drew) := fun a b c => ((HBS.out _ _ _ (HBS.out _ _ _ (HBS.out _ _ _ HB2.out))).alloc (HBS.out _ _ _ (HBS.out _ _ _ (HBS.out _ _ _ HB2.out))).size _).drew
    go_region
    all_goals (
      go_wp2
      (try simp only [Exit.inBlock, Exit.then])
      refine bodyPost_ret (v := .tuple #[.agg #[.string p9.key, .string p9.val, .bool p9.gone], .string (s.extract (2 + n) s.size), .nilIface]) ?_ rfl ⟨rfl, HB3.out _ _ _⟩
      simp [results, Try.f114, go_sem, r0, r1, r2, hlt2, Nat.ne_of_lt hlt2])
  · have hpn : parN (s.extract 2 (2 + n)) = 4 := by unfold parN; rw [if_neg hpb]
    rw [hpn, show erV 4 = .iface 96 (.int .i64 4) from rfl] at HPA
    rw [if_neg (by rw [Bool.not_eq_true] at hpb; rw [hpb]; simp)]
    unfold zeroC
    clear hpn hpb
    go_enter Try.func114, Try.ntmps114
    go_wp2_with fail
    refine (HOF.out _).mono ?_
    rintro e w1 ⟨rfl, rfl⟩
    go_wp2_with fail
    refine (HPA.out _).mono ?_
    rintro e w2 ⟨rfl, hb2⟩
    have hk2 : Blk w2 w.heap.size tCh #[.string ⟨#[]⟩, .string ⟨#[]⟩, .bool false] := (hb2.block _ hlt).trans HKA.out
    have hk3 := hk2.alloc (.cells #[.string p9.key, .string p9.val, .bool p9.gone] tCh)
    have r0 := hk3.cell 0
    have r1 := hk3.cell 1
    have r2 := hk3.cell 2
    have f0 := hk3.free 0
    have f1 := hk3.free 1
    have f2 := hk3.free 2
    have HB2 := Lib.hid ((HBA.out.trans (hb2.mono HBA.out.size)).alloc (Nat.le_of_lt hk2.lt) (.cells #[.string p9.key, .string p9.val, .bool p9.gone] tCh))
    have hbs : ∀ (o : Nat) (v : Value) (X : World), Below w.heap.size w X → Below w.heap.size w (X.setCell ⟨w.heap.size, o, none⟩ v) := fun o v X h => h.setCell (Nat.le_refl _) v
    have HBS := Lib.hid hbs
    clear hk2 hk3 hb2 HPA HOF hbs
    go_wp2
    (try simp only [Exit.inBlock, Exit.then])
    refine bodyPost_ret (v := .tuple #[.agg #[.string ByteArray.empty, .string ByteArray.empty, .bool false], .string ⟨#[]⟩, .iface 96 (.int .i64 4)]) ?_ rfl ⟨rfl, HBS.out _ _ _ (HBS.out _ _ _ (HBS.out _ _ _ HB2.out))⟩
    simp [results, Try.f114, go_sem, r0, r1, r2]
    rfl
end Go.Proofs.Ytgkenknplepmeaa
namespace Go.Proofs.Ytgkenknplepmeaa
open Go.RowKit Go.Sort

def rowR (c : Ch) : ByteArray := numR (encR c).size 2 ++ encR c
def rowsR : List Ch → ByteArray
  | [] => ⟨#[]⟩
  | c :: r => rowR c ++ rowsR r
theorem rowR_list (c : Ch) (z : ByteArray) : (rowR c ++ z).data.toList = (numR (encR c).size 2).data.toList ++ (encR c).data.toList ++ z.data.toList := by
  unfold rowR
  simp [ByteArray.data_append]
theorem rowR_size (c : Ch) (z : ByteArray) : (rowR c ++ z).size = 2 + (encR c).size + z.size := by
  rw [← len_list, rowR_list]
  simp only [List.length_append, len_list, num2_size]
theorem cut_len {c : Ch} (h : ckR c = 0) (z : ByteArray) : lnR (rowR c ++ z) = (encR c).size := by
  unfold lnR
  have e : ((rowR c ++ z).extract 0 2).data.toList = (List.range 2).map (numF (encR c).size) := by
    rw [extract_list, rowR_list, ← numR_list]
    have := take_mid [] (numR (encR c).size 2).data.toList ((encR c).data.toList ++ z.data.toList) 0 2 rfl (by rw [len_list, num2_size])
    simpa [List.append_assoc] using this
  rw [e, ofL_two _ (by have := enc_small h; omega)]
theorem cut_enc (c : Ch) (z : ByteArray) : (rowR c ++ z).extract 2 (2 + (encR c).size) = encR c := list_eq (by
  rw [extract_list, rowR_list, show 2 + (encR c).size - 2 = (encR c).size by omega]
  exact take_mid _ _ _ 2 _ (by rw [len_list, num2_size]) (len_list _))
theorem cut_rest (c : Ch) (z : ByteArray) : (rowR c ++ z).extract (2 + (encR c).size) (rowR c ++ z).size = z := list_eq (by
  rw [extract_list, rowR_list, rowR_size, show 2 + (encR c).size + z.size - (2 + (encR c).size) = z.size by omega]
  have := take_mid ((numR (encR c).size 2).data.toList ++ (encR c).data.toList) z.data.toList [] (2 + (encR c).size) z.size (by rw [List.length_append, len_list, len_list, num2_size]) (len_list _)
  simpa using this)
theorem crV_row {c : Ch} (h : ckR c = 0) (z : ByteArray) : crV (rowR c ++ z) = .tuple #[.agg #[.string c.key, .string c.val, .bool c.gone], .string z, .nilIface] := by
  have hp := par_enc h
  have hpc : parCh (encR c) = c := by unfold parCh; rw [hp.1, if_pos rfl, hp.2]
  have hb : crB (rowR c ++ z) = true := by
    unfold crB
    rw [cut_len h, cut_enc, hp.1, rowR_size, decide_eq_true (by omega), decide_eq_true (by omega)]
    rfl
  unfold crV
  rw [if_pos hb, cut_len h, cut_enc, cut_rest, hpc]
theorem rowsR_size {l : List Ch} (h : ∀ c ∈ l, ckR c = 0) : (rowsR l).size ≤ l.length * 314 := by
  induction l with
  | nil => show 0 ≤ _; omega
  | cons c r ih =>
    have h1 := ih fun x hx => h x (by simp [hx])
    have h2 := enc_small (h c (by simp))
    show (rowR c ++ rowsR r).size ≤ _
    rw [rowR_size, List.length_cons]
    omega
/-- The rows of a store. -/
structure RowsOk (l : List Ch) : Prop where
  ck : ∀ c ∈ l, ckR c = 0
  stay : ∀ c ∈ l, c.gone = false
  rise : l.Pairwise fun a b => lt a.key b.key = true
def slLen : Value → Nat
  | .slice _ n _ => n
  | _ => 0
def PrRel (w : World) (l : List Ch) (v0 v4 : Value) (wr : World) : Prop := ∃ k : Nat, k ≤ l.length ∧ v0 = .string (rowsR (l.drop k)) ∧ wr.ownsRow w.heap.size tCh 3 v4 k (ccells (l.take k)) ∧ Below w.heap.size w wr
def PrPost (w : World) (l : List Ch) (e : Ending) (w' : World) : Prop := ∃ v, e = .returned (.tuple #[v, .nilIface]) ∧ w'.ownsRow w.heap.size tCh 3 v l.length (ccells l) ∧ Below w.heap.size w w'
set_option maxHeartbeats 1000000 in
set_option maxRecDepth 100000 in
theorem parseRows_any (l : List Ch) (w : World) (h : RowsOk l) (hn : l.length ≤ 1000) : Calls Try.prog 103 #[.string (rowsR l)] w (PrPost w l) := by
  obtain ⟨ti, hti, htz, hts, htb⟩ := change_parts
  have HI := Lib.hid hti
  have HZ := Lib.hid htz
  have HS := Lib.hid hts
  have HB := Lib.hid htb
  have HK := Lib.hid h
  clear hti htz hts htb h
  go_enter Try.func103, Try.ntmps103
  go_wp2
  go_loopw [0, 4, 5, 6, 7, 8] (fun v0 v4 _ _ _ _ wx => PrRel w l v0 v4 wx) (fun _ v4 _ _ _ _ _ => l.length - slLen v4)
  case atStart => exact ⟨0, Nat.zero_le _, rfl, World.ownsRow_nil _ _ _ _, Below.refl _ _⟩
  case round =>
    obtain ⟨k, hk, rfl, hown, hb⟩ := hrel
    obtain ⟨A4, c4, e4⟩ := own_shape hown
    subst e4
    have HO := Lib.hid hown
    have HBE := Lib.hid hb
    clear hown hb
    by_cases hlt : k < l.length
    · obtain ⟨c, hc⟩ : ∃ c, l[k]? = some c := ⟨_, List.getElem?_eq_getElem hlt⟩
      have hdrop : l.drop k = c :: l.drop (k + 1) := by
        rw [List.drop_eq_getElem_cons hlt]
        rw [List.getElem?_eq_getElem hlt] at hc
        injection hc with hc
        rw [hc]
      have hmem := List.mem_of_getElem? hc
      have hck := HK.out.ck c hmem
      have hgo := HK.out.stay c hmem
      have hsz : (rowsR (l.drop k)).size ≤ 1000000 := by
        have h1 := rowsR_size (l := l.drop k) (fun x hx => HK.out.ck x (List.mem_of_mem_drop hx))
        have h2 : (l.drop k).length ≤ l.length := by simp
        omega
      have HCR := Lib.hid (fun W => cutRow_any (rowsR (l.drop k)) W hsz)
      have hpos : 0 < (rowsR (l.drop k)).size := by rw [hdrop]; show 0 < (rowR c ++ _).size; rw [rowR_size]; omega
      rw [hdrop] at HCR hpos hsz
      rw [hdrop]
      rw [show rowsR (c :: l.drop (k + 1)) = rowR c ++ rowsR (l.drop (k + 1)) from rfl, crV_row hck] at HCR
      have hrest : (rowR c ++ rowsR (l.drop (k + 1))).toList ≠ [] := fun e => by
        have := congrArg List.length e
        rw [ByteArray.toList_eq, len_list, rowR_size] at this
        simp at this
      rw [show rowsR (c :: l.drop (k + 1)) = rowR c ++ rowsR (l.drop (k + 1)) from rfl]
      generalize hS : rowR c ++ rowsR (l.drop (k + 1)) = S at *
      have hne : (S.toList == ([] : List UInt8)) = false := by rw [beq_eq_false_iff_ne]; exact hrest
      have HC := Lib.hid hc
      have hpre : ∀ d, 0 < k → l[k - 1]? = some d → Op.bytesLess d.key.toList c.key.toList = true := fun d h0 hd => by
        have h1 := List.pairwise_iff_getElem.1 HK.out.rise (k - 1) k (by omega) hlt (by omega)
        rw [List.getElem?_eq_getElem (by omega)] at hd
        rw [List.getElem?_eq_getElem hlt] at hc
        injection hd with hd
        injection hc with hc
        rw [hd, hc] at h1
        exact h1
      have HPRE := Lib.hid hpre
      have htk : ccells (l.take (k + 1)) = ccells (l.take k) ++ encC c := by rw [List.take_add_one, hc]; exact ccells_append _ _
      have HTK := Lib.hid htk
      obtain ⟨ck_, cv, cg⟩ := c
      simp only at hgo
      subst hgo
      clear hS hdrop hmem hck hpos hsz hrest hc hpre htk
      go_wp2_with fail
      refine (HCR.out _).mono ?_
      rintro e w2 ⟨rfl, hb2⟩
      have HO2 := Lib.hid (own_upG (own_step HO.out hb2) (.cells #[.string ck_, .string cv, .bool false] tCh))
      have HB2 := Lib.hid ((HBE.out.trans (hb2.mono HBE.out.size)).alloc (HBE.out.trans (hb2.mono HBE.out.size)).size (.cells #[.string ck_, .string cv, .bool false] tCh))
      have hx := StC.new w2 ck_ cv false tCh
      have x0 := hx.c0
      have x1 := hx.c1
      have x2 := hx.c2
      clear hb2 HCR hx HO HBE
      by_cases hk0 : k = 0
      · have k0 : decide ((0 : Int) < (k : Int)) = false := decide_eq_false (by omega)
        have k0n : decide (0 < k) = false := decide_eq_false (by omega)
        clear hk0
        go_wp2_with fail
        go_quiet (fail)
        have HO3 : Hid (((w2.alloc (.cells #[.string ck_, .string cv, .bool false] tCh)).drewN nq).ownsRow w.heap.size tCh 3 (.slice A4 k c4) k (ccells (l.take k))) := HO2.out
        have HB3 := Lib.hid (below_drewN HB2.out nq)
        have z0 : ((w2.alloc (.cells #[.string ck_, .string cv, .bool false] tCh)).drewN nq).cell? ⟨w2.heap.size, 0, none⟩ = some (.string ck_) := x0
        have z1 : ((w2.alloc (.cells #[.string ck_, .string cv, .bool false] tCh)).drewN nq).cell? ⟨w2.heap.size, 1, none⟩ = some (.string cv) := x1
        have z2 : ((w2.alloc (.cells #[.string ck_, .string cv, .bool false] tCh)).drewN nq).cell? ⟨w2.heap.size, 2, none⟩ = some (.bool false) := x2
        clear x0 x1 x2 HO2 HB2
        generalize (w2.alloc (.cells #[.string ck_, .string cv, .bool false] tCh)).drewN nq = w3 at *
        go_wp2_with (at_builtin; refine wpList_append_rd _ rfl (.tmp 40) (.tmp 42) _ rfl w.heap.size tCh ti _ 3 40 Try.underlying36 HI.out HZ.out HS.out HB.out rfl (by omega) _ _ _ rfl (own_upG HO3.out (.cells #[.string ck_, .string cv, .bool false] tCh)) _ 1 1 _ rfl (rdx_up w3 ⟨ck_, cv, false⟩) ?_ ?_ ?_ ?_)
        · unfold maxLen; omega
        · omega
        · exact Nat.le_trans HB3.out.size (by simp)
        intro v6 w6 hown6 hg6 _
        have HB6 := Lib.hid ((HB3.out.alloc HB3.out.size _).grown hg6 (Nat.le_trans HB3.out.size (by simp)) (fun g' hg' => (HO3.out.lt g' hg').1))
        obtain ⟨A6, c6, e6⟩ := own_shape hown6
        subst e6
        have HO6 := Lib.hid hown6
        clear hown6 hg6
        go_wp2
        go_roundw
        case rel => exact ⟨k + 1, by omega, rfl, by rw [HTK.out]; exact HO6.out, HB6.out⟩
        case measure => simp [slLen]; omega
      · obtain ⟨m, rfl⟩ : ∃ m, k = m + 1 := ⟨k - 1, by omega⟩
        obtain ⟨d, hd⟩ : ∃ d, l[m]? = some d := ⟨_, List.getElem?_eq_getElem (by omega)⟩
        have hbl := HPRE.out d (by omega) (by rw [Nat.add_sub_cancel]; exact hd)
        obtain ⟨A7, c7, e7, hrc⟩ := RdC.of_own HO2.out
        injection e7 with e7 _ e8
        subst e7 e8
        obtain ⟨bq, oq, hAq, hbq, y0, y1, y2⟩ := hrc.at_ (i := m) (f := d) (by rw [List.getElem?_take, if_pos (by omega)]; exact hd)
        subst hAq
        have k0 : (0 : Int) < ((m : Int) + 1) := by omega
        have k1 : (m : Int) < (m : Int) + 1 := by omega
        clear hrc hd y1 y2
        go_wp2_with fail
        go_quiet (fail)
        have HO3 : Hid (((w2.alloc (.cells #[.string ck_, .string cv, .bool false] tCh)).drewN nq).ownsRow w.heap.size tCh 3 (.slice (some ⟨bq, oq, none⟩) (m + 1) c4) (m + 1) (ccells (l.take (m + 1)))) := HO2.out
        have HB3 := Lib.hid (below_drewN HB2.out nq)
        have z0 : ((w2.alloc (.cells #[.string ck_, .string cv, .bool false] tCh)).drewN nq).cell? ⟨w2.heap.size, 0, none⟩ = some (.string ck_) := x0
        have z1 : ((w2.alloc (.cells #[.string ck_, .string cv, .bool false] tCh)).drewN nq).cell? ⟨w2.heap.size, 1, none⟩ = some (.string cv) := x1
        have z2 : ((w2.alloc (.cells #[.string ck_, .string cv, .bool false] tCh)).drewN nq).cell? ⟨w2.heap.size, 2, none⟩ = some (.bool false) := x2
        clear x0 x1 x2 HO2 HB2 y0
        generalize (w2.alloc (.cells #[.string ck_, .string cv, .bool false] tCh)).drewN nq = w3 at *
        go_wp2_with (at_builtin; refine wpList_append_rd _ rfl (.tmp 40) (.tmp 42) _ rfl w.heap.size tCh ti _ 3 40 Try.underlying36 HI.out HZ.out HS.out HB.out rfl (by omega) _ _ _ rfl (own_upG HO3.out (.cells #[.string ck_, .string cv, .bool false] tCh)) _ 1 1 _ rfl (rdx_up w3 ⟨ck_, cv, false⟩) ?_ ?_ ?_ ?_)
        · unfold maxLen; omega
        · omega
        · exact Nat.le_trans HB3.out.size (by simp)
        intro v6 w6 hown6 hg6 _
        have HB6 := Lib.hid ((HB3.out.alloc HB3.out.size _).grown hg6 (Nat.le_trans HB3.out.size (by simp)) (fun g' hg' => (HO3.out.lt g' hg').1))
        obtain ⟨A6, c6, e6⟩ := own_shape hown6
        subst e6
        have HO6 := Lib.hid hown6
        clear hown6 hg6
        go_wp2
        go_roundw
        case rel => exact ⟨(m + 1) + 1, by omega, rfl, by rw [HTK.out]; exact HO6.out, HB6.out⟩
        case measure => simp [slLen]; omega
    · obtain rfl : k = l.length := by omega
      rw [List.drop_length]
      rw [List.take_length] at HO
      have hnil : (⟨#[]⟩ : ByteArray).toList = [] := nil_list
      unfold rowsR
      go_wp2
      go_ret2
      exact ⟨_, rfl, HO.out, HBE.out⟩
end Go.Proofs.Ytgkenknplepmeaa
