/-
  WALKS: log.Open, Room, Next on a disk that is not down.
-/
import Derived.Test.YtgkenknplepmeaaLgE
namespace Go.Proofs.Ytgkenknplepmeaa
open Go.RowKit Go.Sort

/-- Does the disk have these sectors, and may they be a log? -/
def opB (D : Dk) (fr mn fi : Int) : Bool := decide (0 ≤ fr) && decide (1 ≤ mn) && decide (1 ≤ fi) && decide (mn ≤ (D.n : Int)) && decide (fr ≤ (D.n : Int) - mn)
set_option maxHeartbeats 1000000 in
set_option maxRecDepth 100000 in
theorem open_bad (base p B : Nat) (V : Nat → Value) (D : Dk) (fr mn fi : Int) (w : World) (hd : DkAt w base p B V D) (hm : -9223372036854775808 ≤ mn ∧ mn ≤ 9223372036854775807) (h : opB D fr mn fi = false) :
    Calls Try.prog 41 #[ptr p, .int .i64 fr, .int .i64 mn, .int .i64 fi] w fun e w' => e = .returned (.tuple #[.pointer none, .slice none 0 0, .iface 96 (.int .i64 1)]) ∧ w' = w := by
  have HS := Lib.hid (sectors_any base p B V D w hd)
  have hn1 := hd.n1
  have hn2 := hd.n2
  clear hd
  unfold ptr at *
  by_cases h1 : fr < 0
  · go_enter Try.func41, Try.ntmps41
    go_wp2_with fail
    refine HS.out.mono ?_
    rintro e w1 ⟨rfl, rfl⟩
    go_wp2
    go_ret3
    exact ⟨rfl, rfl⟩
  have d1 : decide (fr < 0) = false := decide_eq_false h1
  by_cases h2 : mn < 1
  · go_enter Try.func41, Try.ntmps41
    go_wp2_with fail
    refine HS.out.mono ?_
    rintro e w1 ⟨rfl, rfl⟩
    go_wp2
    go_ret3
    exact ⟨rfl, rfl⟩
  have d2 : decide (mn < 1) = false := decide_eq_false h2
  by_cases h3 : fi < 1
  · go_enter Try.func41, Try.ntmps41
    go_wp2_with fail
    refine HS.out.mono ?_
    rintro e w1 ⟨rfl, rfl⟩
    go_wp2
    go_ret3
    exact ⟨rfl, rfl⟩
  have d3 : decide (fi < 1) = false := decide_eq_false h3
  by_cases h4 : (D.n : Int) < mn
  · go_enter Try.func41, Try.ntmps41
    go_wp2_with fail
    refine HS.out.mono ?_
    rintro e w1 ⟨rfl, rfl⟩
    go_wp2
    go_ret3
    exact ⟨rfl, rfl⟩
  have d4 : decide ((D.n : Int) < mn) = false := decide_eq_false h4
  have h5 : (D.n : Int) - mn < fr := by
    unfold opB at h
    rw [decide_eq_true (show 0 ≤ fr by omega), decide_eq_true (show 1 ≤ mn by omega), decide_eq_true (show 1 ≤ fi by omega), decide_eq_true (show mn ≤ (D.n : Int) by omega)] at h
    simp at h
    omega
  go_enter Try.func41, Try.ntmps41
  go_wp2_with fail
  refine HS.out.mono ?_
  rintro e w1 ⟨rfl, rfl⟩
  go_wp2
  go_ret3
  exact ⟨rfl, rfl⟩
def OpPost (w : World) (p fr mn fi : Nat) (f : Nat → ByteArray) (e : Ending) (w' : World) : Prop := ∃ v v5 cs, e = .returned (.tuple #[ptr w.heap.size, v, .nilIface]) ∧ LgSt (w.alloc (.cells #[ptr p, .int .i64 fr, .int .i64 mn, .int .i64 fi, .int .i64 0] tLog)) w.heap.size p fr mn fi (rdR f fi mn 0 [] [] 0).2 v v5 (rdR f fi mn 0 [] [] 0).1 cs w'
set_option maxHeartbeats 1000000 in
set_option maxRecDepth 100000 in
theorem open_good (base p B fr mn fi : Nat) (V : Nat → Value) (D : Dk) (w : World) (hd : DkAt w base p B V D) (hdn : D.down = false) (hfr : fr + mn ≤ D.n) (hmn : 1 ≤ mn) (hf1 : 1 ≤ fi) (hfi : fi ≤ 1000000000000) :
    Calls Try.prog 41 #[ptr p, .int .i64 fr, .int .i64 mn, .int .i64 fi] w (OpPost w p fr mn fi (fun i => nowB (D.sec (fr + i)))) := by
  have HS := Lib.hid (sectors_any base p B V D w hd)
  have hn2 := hd.n2
  have hd1 : DkAt (w.alloc (.cells #[ptr p, .int .i64 fr, .int .i64 mn, .int .i64 fi, .int .i64 0] tLog)) base p B V D := hd.keep fun k _ hk => Below.heap_alloc _ _ _ hk
  have HR := Lib.hid (logRead_any w.heap.size base p B fr mn fi 0 V D (w.alloc (.cells #[ptr p, .int .i64 fr, .int .i64 mn, .int .i64 fi, .int .i64 0] tLog)) (Blk.new w tLog #[ptr p, .int .i64 fr, .int .i64 mn, .int .i64 fi, .int .i64 0]) hd1 hdn hfr hfi (by omega))
  clear hd hd1 hdn
  unfold OpPost ptr at *
  have d1 : decide ((fr : Int) < 0) = false := decide_eq_false (by omega)
  have d2 : decide ((mn : Int) < 1) = false := decide_eq_false (by omega)
  have d3 : decide ((fi : Int) < 1) = false := decide_eq_false (by omega)
  have d4 : decide ((D.n : Int) < (mn : Int)) = false := decide_eq_false (by omega)
  have d5 : decide ((D.n : Int) - (mn : Int) < (fr : Int)) = false := decide_eq_false (by omega)
  go_enter Try.func41, Try.ntmps41
  go_wp2_with fail
  refine HS.out.mono ?_
  rintro e w1 ⟨rfl, rfl⟩
  go_wp2_with fail
  refine HR.out.mono ?_
  rintro e w2 ⟨v, v5, cs, rfl, hst⟩
  have HST := Lib.hid hst
  clear hst HR HS
  go_wp2
  go_ret3
  exact ⟨v, v5, cs, rfl, HST.out⟩
set_option maxHeartbeats 1000000 in
set_option maxRecDepth 100000 in
theorem room_any (pl p fr mn fi u : Nat) (w : World) (hl : Blk w pl tLog #[ptr p, .int .i64 fr, .int .i64 mn, .int .i64 fi, .int .i64 u]) (hm : mn ≤ 1000000) (hu : u ≤ 1000000) :
    Calls Try.prog 44 #[ptr pl] w fun e w' => e = .returned (.int .i64 ((mn : Int) - (u : Int))) ∧ ∃ k, w' = w.drewN k := by
  have c2 := hl.cell 2
  have c4 := hl.cell 4
  have wz : IntKind.i64.wrap ((mn : Int) - (u : Int)) = (mn : Int) - (u : Int) := by rw [IntKind.wrap_i64]; omega
  clear hl
  unfold ptr
  go_enter Try.func44, Try.ntmps44
  go_wp2
  go_quiet (fail)
  go_wp2
  go_ret
  exact ⟨rfl, _, rfl⟩
set_option maxHeartbeats 1000000 in
set_option maxRecDepth 100000 in
theorem next_any (pl p fr mn fi u : Nat) (w : World) (hl : Blk w pl tLog #[ptr p, .int .i64 fr, .int .i64 mn, .int .i64 fi, .int .i64 u]) (hm : mn ≤ 1000000) (hf : fi ≤ 1000000000000) :
    Calls Try.prog 45 #[ptr pl] w fun e w' => e = .returned (.int .i64 ((fi : Int) + (mn : Int))) ∧ ∃ k, w' = w.drewN k := by
  have c2 := hl.cell 2
  have c3 := hl.cell 3
  have wz : IntKind.i64.wrap ((fi : Int) + (mn : Int)) = (fi : Int) + (mn : Int) := by rw [IntKind.wrap_i64]; omega
  clear hl
  unfold ptr
  go_enter Try.func45, Try.ntmps45
  go_wp2
  go_quiet (fail)
  go_wp2
  go_ret
  exact ⟨rfl, _, rfl⟩
end Go.Proofs.Ytgkenknplepmeaa
