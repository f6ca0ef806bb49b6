/-
  WALK: package disk: Read.
-/
import Derived.Test.YtgkenknplepmeaaRwC
import Derived.Test.YtgkenknplepmeaaRows
import Derived.WalkKit
import Derived.WalkSpells
import Derived.WalkLawsBesides
import Derived.Deep.QuietTactic
import Derived.BigQuiet
import Derived.Lib.Hide
import Derived.WideLaws
import Derived.Test.YtgkenknplepmeaaCof
import Derived.Test.YtgkenknplepmeaaDkA
namespace Go.Proofs.Ytgkenknplepmeaa
open Go.RowKit

set_option maxHeartbeats 1000000 in
set_option maxRecDepth 100000 in
theorem check_all (c : Ch) (w : World) (hs : c.key.size ≤ 1000000) : Calls Try.prog 34 #[c.v] w fun e w' => e = .returned (erV (ckR c)) ∧ ∃ o, w' = w.alloc o := by
  obtain ⟨key, val, gone⟩ := c
  have HF := Lib.hid (fun w => isFile_any key w hs)
  have HD := Lib.hid (fun w => isMade_any key w hs)
  unfold Ch.v ckR
  simp only
  generalize keyB pF key = kF at HF ⊢
  generalize keyB pD key = kD at HD ⊢
  cases kF with
  | true =>
    cases gone with
    | false =>
      by_cases h3 : 300 < val.size
      · have d3 : (300 : Int) < (val.size : Int) := by omega
        go_enter Try.func34, Try.ntmps34
        go_wp2_with fail
        refine (HF.out _).mono ?_
        rintro e w1 ⟨rfl, rfl⟩
        go_wp2_with fail
        go_ret
        exact ⟨by simp [h3, erV], _, rfl⟩
      have d3 : decide ((300 : Int) < (val.size : Int)) = false := decide_eq_false (by omega)
      by_cases h2 : 20 < val.size
      · have d2 : (20 : Int) < (val.size : Int) := by omega
        go_enter Try.func34, Try.ntmps34
        go_wp2_with fail
        refine (HF.out _).mono ?_
        rintro e w1 ⟨rfl, rfl⟩
        go_wp2_with fail
        refine (HF.out _).mono ?_
        rintro e w1 ⟨rfl, rfl⟩
        go_wp2_with fail
        go_ret
        exact ⟨by simp [h2, erV], _, rfl⟩
      have d2 : decide ((20 : Int) < (val.size : Int)) = false := decide_eq_false (by omega)
      go_enter Try.func34, Try.ntmps34
      go_wp2_with fail
      refine (HF.out _).mono ?_
      rintro e w1 ⟨rfl, rfl⟩
      go_wp2_with fail
      refine (HF.out _).mono ?_
      rintro e w1 ⟨rfl, rfl⟩
      go_wp2_with fail
      go_ret
      exact ⟨by simp [h2, h3, erV], _, rfl⟩
    | true =>
      cases he : val.toList.isEmpty with
      | true =>
        have hv : val.size = 0 := by
          have h0 : val.data = #[] := by simpa [ByteArray.toList_eq] using he
          show val.data.size = 0
          rw [h0]; rfl
        have he' : (!val.toList.isEmpty) = false := by rw [he]; rfl
        have d3 : decide ((300 : Int) < (val.size : Int)) = false := decide_eq_false (by omega)
        have d2 : decide ((20 : Int) < (val.size : Int)) = false := decide_eq_false (by omega)
        clear he
        go_enter Try.func34, Try.ntmps34
        go_wp2_with fail
        refine (HF.out _).mono ?_
        rintro e w1 ⟨rfl, rfl⟩
        go_wp2_with fail
        refine (HF.out _).mono ?_
        rintro e w1 ⟨rfl, rfl⟩
        go_wp2_with fail
        go_ret
        exact ⟨by simp [erV, *], _, rfl⟩
      | false =>
        have he' : (!val.toList.isEmpty) = true := by rw [he]; rfl
        clear he
        go_enter Try.func34, Try.ntmps34
        go_wp2_with fail
        refine (HF.out _).mono ?_
        rintro e w1 ⟨rfl, rfl⟩
        go_wp2_with fail
        go_ret
        exact ⟨by simp [erV, *], _, rfl⟩
  | false =>
    cases kD with
    | true =>
      cases gone with
      | false =>
        by_cases h3 : 300 < val.size
        · have d3 : (300 : Int) < (val.size : Int) := by omega
          go_enter Try.func34, Try.ntmps34
          go_wp2_with fail
          refine (HF.out _).mono ?_
          rintro e w1 ⟨rfl, rfl⟩
          go_wp2_with fail
          refine (HD.out _).mono ?_
          rintro e w1 ⟨rfl, rfl⟩
          go_wp2_with fail
          go_ret
          exact ⟨by simp [h3, erV], _, rfl⟩
        have d3 : decide ((300 : Int) < (val.size : Int)) = false := decide_eq_false (by omega)
        go_enter Try.func34, Try.ntmps34
        go_wp2_with fail
        refine (HF.out _).mono ?_
        rintro e w1 ⟨rfl, rfl⟩
        go_wp2_with fail
        refine (HD.out _).mono ?_
        rintro e w1 ⟨rfl, rfl⟩
        go_wp2_with fail
        refine (HF.out _).mono ?_
        rintro e w1 ⟨rfl, rfl⟩
        go_wp2_with fail
        go_ret
        exact ⟨by simp [h3, erV], _, rfl⟩
      | true =>
        cases he : val.toList.isEmpty with
        | true =>
          have hv : val.size = 0 := by
            have h0 : val.data = #[] := by simpa [ByteArray.toList_eq] using he
            show val.data.size = 0
            rw [h0]; rfl
          have he' : (!val.toList.isEmpty) = false := by rw [he]; rfl
          have d3 : decide ((300 : Int) < (val.size : Int)) = false := decide_eq_false (by omega)
          have d2 : decide ((20 : Int) < (val.size : Int)) = false := decide_eq_false (by omega)
          clear he
          go_enter Try.func34, Try.ntmps34
          go_wp2_with fail
          refine (HF.out _).mono ?_
          rintro e w1 ⟨rfl, rfl⟩
          go_wp2_with fail
          refine (HD.out _).mono ?_
          rintro e w1 ⟨rfl, rfl⟩
          go_wp2_with fail
          refine (HF.out _).mono ?_
          rintro e w1 ⟨rfl, rfl⟩
          go_wp2_with fail
          go_ret
          exact ⟨by simp [erV, *], _, rfl⟩
        | false =>
          have he' : (!val.toList.isEmpty) = true := by rw [he]; rfl
          clear he
          go_enter Try.func34, Try.ntmps34
          go_wp2_with fail
          refine (HF.out _).mono ?_
          rintro e w1 ⟨rfl, rfl⟩
          go_wp2_with fail
          refine (HD.out _).mono ?_
          rintro e w1 ⟨rfl, rfl⟩
          go_wp2_with fail
          go_ret
          exact ⟨by simp [erV, *], _, rfl⟩
    | false =>
      go_enter Try.func34, Try.ntmps34
      go_wp2_with fail
      refine (HF.out _).mono ?_
      rintro e w1 ⟨rfl, rfl⟩
      go_wp2_with fail
      refine (HD.out _).mono ?_
      rintro e w1 ⟨rfl, rfl⟩
      go_wp2_with fail
      go_ret
      exact ⟨by simp [erV, *], _, rfl⟩
end Go.Proofs.Ytgkenknplepmeaa
namespace Go.Proofs.Ytgkenknplepmeaa
open Go.RowKit

set_option maxHeartbeats 400000 in
set_option maxRecDepth 100000 in
theorem same_nil (w : World) : Calls Try.prog 16 #[.nilIface, .int .i64 0] w fun e w' => e = .returned (.bool true) ∧ w = w' := by
  go_enter Try.func16, Try.ntmps16
  go_wp2
  go_ret
  exact ⟨rfl, rfl⟩

theorem assert_err (v : Value) (W : World) : (Instr.typeAssert (.iface 96 v) 27 96 true).run Try.prog W = .ok (.tuple #[v, .bool true]) W := by kernel_rfl

set_option maxHeartbeats 400000 in
set_option maxRecDepth 100000 in
theorem same_err (k : Int) (hk : 0 < k) (w : World) : Calls Try.prog 16 #[.iface 96 (.int .i64 k), .int .i64 k] w fun e w' => e = .returned (.bool true) ∧ w = w' := by
  have ha := fun v W => assert_err v W
  go_enter Try.func16, Try.ntmps16
  go_wp2
  go_ret
  exact ⟨rfl, rfl⟩
end Go.Proofs.Ytgkenknplepmeaa
namespace Go.Proofs.Ytgkenknplepmeaa
open Go.RowKit

theorem same_erV (k : Int) (hk : k = 0 ∨ 0 < k) (w : World) : Calls Try.prog 16 #[erV k, .int .i64 k] w fun e w' => e = .returned (.bool true) ∧ w = w' := by
  rcases hk with rfl | hk
  · exact same_nil w
  · rw [show erV k = .iface 96 (.int .i64 k) from if_neg (by omega)]
    exact same_err k hk w
/-- What the two encoders give, in one form. -/
def encS (c : Ch) : ByteArray := if ckR c = 0 then encR c else ByteArray.empty
theorem encV_eq (c : Ch) : encV c = .tuple #[.string (encS c), erV (ckR c)] := by
  unfold encV encS
  by_cases h : ckR c = 0
  · rw [if_pos h, if_pos h, h]; rfl
  · rw [if_neg h, if_neg h]
theorem cbV_eq (c : Ch) : cbV c = .tuple #[.string (encS c), .int .i64 (ckR c)] := by
  unfold cbV encS
  by_cases h : ckR c = 0
  · rw [if_pos h, if_pos h, h]
  · rw [if_neg h, if_neg h]; rfl
/-- What the two parsers give, in one form. -/
def parCh (s : ByteArray) : Ch := if parB s then parC s else ⟨ByteArray.empty, ByteArray.empty, false⟩
def parN (s : ByteArray) : Int := if parB s then 0 else 4
theorem parV_eq (s : ByteArray) : parV s = .tuple #[.agg #[.string (parCh s).key, .string (parCh s).val, .bool (parCh s).gone], erV (parN s)] := by
  unfold parV parCh parN
  split <;> rfl
theorem ofV_eq (s : ByteArray) : ofV s = .tuple #[.agg #[.string (parCh s).key, .string (parCh s).val, .bool (parCh s).gone], .int .i64 (parN s)] := by
  unfold ofV parCh parN
  split <;> rfl
theorem parN_cases (s : ByteArray) : parN s = 0 ∨ 0 < parN s := by
  unfold parN
  split
  · exact .inl rfl
  · exact .inr (by omega)
end Go.Proofs.Ytgkenknplepmeaa
namespace Go.Proofs.Ytgkenknplepmeaa
open Go.RowKit

set_option maxRecDepth 100000 in
set_option maxHeartbeats 1000000 in
theorem read_any (base p B : Nat) (V : Nat → Value) (D : Dk) (at_ : Int) (w : World) (h : DkAt w base p B V D) :
    Calls Try.prog 20 #[ptr p, .int .i64 at_] w fun e w' => e = .returned (.tuple #[.string (readR D at_).1, erV (readR D at_).2]) ∧ Below w.heap.size w w' := by
  have c2 : w.cell? ⟨p, 2, none⟩ = some (.bool D.down) := h.dk.cell 2
  have c0 : w.cell? ⟨p, 0, none⟩ = some (.slice (some ⟨B, 0, none⟩) D.n D.n) := h.dk.cell 0
  have HH := Lib.hid (has_any base p B V D at_ w h)
  have HD := Lib.hid h
  unfold readR
  clear h
  cases hdn : D.down with
  | true =>
    rw [hdn] at c2
    rw [if_pos rfl]
    clear hdn
    go_enter Try.func20, Try.ntmps20
    go_wp2
    go_ret2
    exact ⟨rfl, Below.refl _ _⟩
  | false =>
    rw [hdn] at c2
    rw [if_neg (by simp)]
    clear hdn
    cases hh : hasR D at_ with
    | false =>
      rw [hh] at HH
      rw [if_neg (by simp)]
      clear hh
      go_enter Try.func20, Try.ntmps20
      go_wp2_with (go_at_call 60; refine HH.out.mono ?_; rintro e w' ⟨rfl, rfl⟩)
      go_ret2
      exact ⟨rfl, Below.refl _ _⟩
    | true =>
      rw [hh] at HH
      rw [if_pos rfl]
      have hb := hh
      unfold hasR at hb
      rw [Bool.and_eq_true, decide_eq_true_eq, decide_eq_true_eq] at hb
      obtain ⟨k, rfl⟩ : ∃ k : Nat, at_ = k := ⟨at_.toNat, by omega⟩
      have hk : k < D.n := by omega
      have hki : (k : Int) < (D.n : Int) := by omega
      rw [show ((k : Int)).toNat = k from rfl]
      clear hh hb
      obtain ⟨A, c, hV⟩ := own_shape (HD.out.own k hk)
      have hrow := HD.out.row k hk
      have hszd := HD.out.szd k hk
      have hown := HD.out.own k hk
      have hszw := HD.out.szw k hk
      generalize D.sec k = sk at *
      obtain ⟨dur, ws⟩ := sk
      rw [hV] at hrow hown
      dsimp only at hrow hown hszd hszw hV ⊢
      have hW2 := hown
      obtain ⟨m, hm⟩ : ∃ m, ws.length = m := ⟨_, rfl⟩
      rw [hm] at hrow hown
      have hlen := seC_len (.slice A m c) hszd
      have hsi : (Try.prog.info? tSe).map (·.size) = some (seC dur (.slice A m c)).length := by rw [hlen]; exact se_info
      have hone : (seC dur (.slice A m c)).toArray.all (·.oneCell') = true := all_oneCell_toArray (fun v hv => by
        rcases List.mem_append.1 hv with h | h
        · exact strCells_one _ v h
        · rw [List.mem_singleton] at h
          rw [h]; rfl)
      have hth : (w.alloc (.cells Try.zeroCells110 tSe)).there w.heap.size 0 341 := fun j hj => by
        have hz : Try.zeroCells110.size = 341 := by kernel_rfl
        refine ⟨?_, (Blk.new w tSe _).free _⟩
        rw [(Blk.new w tSe _).cell, Array.getElem?_eq_getElem (by omega)]
        rfl
      rw [← hlen] at hth
      have hrg := World.rangeAt_setCells_same _ w.heap.size 0 (seC dur (.slice A m c)) hth
      have hb1 : Below w.heap.size w ((w.alloc (.cells Try.zeroCells110 tSe)).setCells w.heap.size 0 (seC dur (.slice A m c))) := below_cells (Nat.le_refl _) _ _ _ ((Below.refl _ _).alloc (Nat.le_refl _) _)
      have hsl : (Lib.strCells dur).length = 340 := by rw [Lib.strCells_length]; exact hszd
      have c340 : ((w.alloc (.cells Try.zeroCells110 tSe)).setCells w.heap.size 0 (seC dur (.slice A m c))).cell? ⟨w.heap.size, 340, none⟩ = some (.slice A m c) := by
        have := hrg 340 (.slice A m c) (by unfold seC; rw [List.getElem?_append_right (by omega), hsl]; rfl)
        rwa [Nat.zero_add] at this
      have HW := Lib.hid hrow
      have HB := Lib.hid hb1
      have HO := Lib.hid hone
      have HT := Lib.hid hth
      have HS := Lib.hid hsi
      rcases m with _ | q
      · obtain rfl : ws = [] := List.eq_nil_of_length_eq_zero hm
        have hcv := run_convert_bytes_back (P := Try.prog) ((w.alloc (.cells Try.zeroCells110 tSe)).setCells w.heap.size 0 (seC dur (.slice A 0 c))) 107 9 5 ⟨w.heap.size, 0, none⟩ 340 dur.data.toList Try.underlying107 Try.underlying5 Try.underlying9 (fun j hj => by
          rw [Go.WideShapes.add_plain]
          refine hrg j _ ?_
          unfold seC
          have hj' : j < dur.size := by simpa using hj
          rw [List.getElem?_append_left (by rw [hsl]; omega), strCells_at dur j hj'])
        rw [show dur.data.toList.length = 340 by simpa using hszd] at hcv
        rw [show (⟨dur.data.toList.toArray⟩ : ByteArray) = dur by simp] at hcv
        clear hrg hb1 hone hth hsi hlen hrow hown hszw hsl hm hV hszd hW2
        go_enter Try.func20, Try.ntmps20
        go_wp2_with (go_at_call 60; refine HH.out.mono ?_; rintro e w' ⟨rfl, rfl⟩)
        refine wp_load_mid tSe (.tmp 23) rfl B (k * 341) rfl _ _ HW.out Try.underlying110 rfl HS.out ?_
        go_wp2_with (refine wpList_store_mid rfl tSe (.tmp 6) (.tmp 24) rfl w.heap.size 0 (seC dur (.slice A 0 c)).toArray rfl rfl HT.out HS.out HO.out ?_)
        go_ret2
        exact ⟨rfl, HB.out⟩
      · obtain ⟨x, hx⟩ : ∃ x, ws[q]? = some x := ⟨_, List.getElem?_eq_getElem (by omega)⟩
        have hlast : ws.getLast? = some x := by rw [List.getLast?_eq_getElem?, hm]; exact hx
        have hxm : x ∈ ws := List.mem_of_getElem? hx
        have hxs := (hszw x hxm).1
        obtain ⟨g, rfl⟩ : ∃ g, A = some ⟨g, 0, none⟩ := by
          rcases hown.2 with ⟨e, h⟩ | ⟨g, cap, cur, e, _⟩
          · omega
          · injection e with e1; exact ⟨g, e1⟩
        have hqb : q + 1 ≤ 9223372036854775807 := by
          rcases hown.2 with ⟨e, h⟩ | ⟨g, cap, cur, e, _, _, h1, h2, _⟩
          · omega
          · unfold maxLen at h2; omega
        have hg := hown.lt g rfl
        have hcells := hown.cells (g := g) rfl
        have hcv := run_convert_bytes_back (P := Try.prog) ((w.alloc (.cells Try.zeroCells110 tSe)).setCells w.heap.size 0 (seC dur (.slice (some ⟨g, 0, none⟩) (q + 1) c))) 107 9 5 ⟨g, q * 341 + 1, none⟩ 340 x.2.data.toList Try.underlying107 Try.underlying5 Try.underlying9 (fun j hj => by
          rw [Go.WideShapes.add_plain]
          have hj' : j < x.2.size := by simpa using hj
          rw [hb1.cell (p := ⟨g, q * 341 + 1 + j, none⟩) hg.2]
          have h1 := wsC_at (fun y hy => (hszw y hy).1) hx (j + 1) _ (by unfold wrC; rw [List.getElem?_cons_succ]; exact strCells_at x.2 j hj')
          have h2 := hcells _ _ h1
          rw [Go.WideShapes.add_plain, Nat.zero_add] at h2
          rw [show q * 341 + 1 + j = q * 341 + (j + 1) by omega]
          exact h2)
        rw [show x.2.data.toList.length = 340 by simpa using hxs] at hcv
        rw [show (⟨x.2.data.toList.toArray⟩ : ByteArray) = x.2 by simp] at hcv
        have HL := Lib.hid (show nowB ⟨dur, ws⟩ = x.2 by unfold nowB; rw [show (Sec.mk dur ws).ws.getLast? = some x from hlast])
        clear hrg hb1 hone hth hsi hlen hrow hown hszw hsl hm hV hszd hW2 hx hlast hxm hxs hcells
        go_enter Try.func20, Try.ntmps20
        go_wp2_with (go_at_call 60; refine HH.out.mono ?_; rintro e w' ⟨rfl, rfl⟩)
        refine wp_load_mid tSe (.tmp 23) rfl B (k * 341) rfl _ _ HW.out Try.underlying110 rfl HS.out ?_
        go_wp2_with (refine wpList_store_mid rfl tSe (.tmp 6) (.tmp 24) rfl w.heap.size 0 (seC dur (.slice (some ⟨g, 0, none⟩) (q + 1) c)).toArray rfl rfl HT.out HS.out HO.out ?_)
        go_ret2
        exact ⟨by rw [HL.out]; rfl, HB.out⟩
end Go.Proofs.Ytgkenknplepmeaa
