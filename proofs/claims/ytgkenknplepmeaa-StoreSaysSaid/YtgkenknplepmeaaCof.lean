/-
  WALKS: hammerpondref.ChangeOf and ChangeBytes: what they give, for every text and every change.
-/
import Derived.Test.YtgkenknplepmeaaRwD
import Derived.Test.YtgkenknplepmeaaCat
namespace Go.Proofs.Ytgkenknplepmeaa
open Go.RowKit

theorem keyB_size {p s : ByteArray} (h : keyB p s = true) : s.size ≤ p.size + 8 := by
  unfold keyB at h
  rw [Bool.and_eq_true] at h
  have h2 := h.2
  unfold nameB at h2
  rw [Bool.and_eq_true, decide_eq_true_eq] at h2
  have := h2.1.2
  rw [ByteArray.size_extract] at this
  omega
theorem ckR_key {c : Ch} (h : ckR c = 0) : c.key.size ≤ 10 := by
  unfold ckR at h
  split at h
  · rename_i hc
    rw [Bool.and_eq_true, Bool.or_eq_true] at hc
    rcases hc.1 with h1 | h1
    · exact keyB_size h1
    · exact keyB_size h1
  · cases h
theorem encR_list (c : Ch) : (encR c).data.toList = numF (if c.gone then 1 else 0) 0 :: numF c.key.size 0 :: (c.key.data.toList ++ c.val.data.toList) := by
  unfold encR numR ofBytes
  simp [ByteArray.data_append]
theorem list_eq {a b : ByteArray} (h : a.data.toList = b.data.toList) : a = b := toList_inj (by rw [ByteArray.toList_eq, ByteArray.toList_eq, h])
theorem par_enc {c : Ch} (h : ckR c = 0) : parB (encR c) = true ∧ parC (encR c) = c := by
  have hk := ckR_key h
  have hl := encR_list c
  have hsz : (encR c).size = 2 + c.key.size + c.val.size := by
    show (encR c).data.size = _
    rw [← Array.length_toList, hl]
    simp only [List.length_cons, List.length_append, Array.length_toList]
    show c.key.size + c.val.size + 1 + 1 = _
    omega
  have h0 : by0 (encR c) = if c.gone then 1 else 0 := by
    unfold by0
    rw [Array.getD_eq_getD_getElem?, ← Array.getElem?_toList, hl]
    simp only [List.getElem?_cons_zero, Option.getD_some]
    cases c.gone <;> rfl
  have h1 : by1 (encR c) = c.key.size := by
    unfold by1
    rw [Array.getD_eq_getD_getElem?, ← Array.getElem?_toList, hl]
    simp only [List.getElem?_cons_succ, List.getElem?_cons_zero, Option.getD_some]
    unfold numF
    simp
    omega
  have hc : parC (encR c) = c := by
    obtain ⟨key, val, gone⟩ := c
    unfold parC
    rw [h1, h0]
    simp only at hsz hl hk ⊢
    have e1 : (encR ⟨key, val, gone⟩).extract 2 (2 + key.size) = key := by
      apply list_eq
      rw [ByteArray.data_extract, Array.toList_extract, hl]
      simp only [List.extract_eq_take_drop]
      rw [show 2 + key.size - 2 = key.size by omega]
      simp only [List.drop_succ_cons, List.drop_zero]
      exact List.take_left' rfl
    have e2 : (encR ⟨key, val, gone⟩).extract (2 + key.size) (encR ⟨key, val, gone⟩).size = val := by
      apply list_eq
      rw [ByteArray.data_extract, Array.toList_extract, hl]
      simp only [List.extract_eq_take_drop]
      rw [hsz, show 2 + key.size + val.size - (2 + key.size) = val.size by omega, show 2 + key.size = key.size + 1 + 1 by omega]
      simp only [List.drop_succ_cons]
      rw [show key.size = key.data.toList.length by rw [Array.length_toList]; rfl, List.drop_left]
      exact List.take_of_length_le (by rw [Array.length_toList]; exact Nat.le_refl _)
    rw [e1, e2]
    cases gone <;> rfl
  refine ⟨?_, hc⟩
  unfold parB
  rw [hc, h, h0, h1, hsz]
  simp
  cases c.gone <;> simp <;> omega
theorem enc_fa : encV ⟨⟨#[102, 47, 97]⟩, ⟨#[]⟩, true⟩ = .tuple #[.string ⟨#[1, 3, 102, 47, 97]⟩, .nilIface] := by
  have h : ckR ⟨⟨#[102, 47, 97]⟩, ⟨#[]⟩, true⟩ = 0 := by
    unfold ckR keyB preB
    simp only [ByteArray.toList_eq]
    decide +kernel
  unfold encV
  rw [if_pos h]
  have e : encR ⟨⟨#[102, 47, 97]⟩, ⟨#[]⟩, true⟩ = ⟨#[1, 3, 102, 47, 97]⟩ := list_eq (by rw [encR_list]; rfl)
  rw [e]
theorem RdC.one {w : World} {B b off c k : Nat} {n : Nat} {l : List Ch} {f : Ch} (h : RdC w B (some ⟨b, off, none⟩) n c l) (hf : l[k]? = some f) : RdC w B (some ⟨b, off + k * 3, none⟩) 1 (c - k) [f] := by
  have hl : k < l.length := (List.getElem?_eq_some_iff.1 hf).1
  have h1 := h.1
  have h2 := h.2.1
  have h3 := h.2.2.1
  refine ⟨rfl, by omega, by omega, fun _ => ?_⟩
  obtain ⟨b', off', e, hb, hc⟩ := h.2.2.2 (by omega)
  injection e with e
  injection e with e1 e2
  subst e1 e2
  refine ⟨b, off + k * 3, rfl, hb, fun i g hg => ?_⟩
  cases i with
  | zero =>
    simp at hg
    subst hg
    have := hc k f hf
    simpa using this
  | succ i => simp at hg
/-- Two changes that lie in blocks of their own, and a list of changes. -/
structure TR (w : World) (a b : Ch) (A : Option Addr) (n c : Nat) (l : List Ch) (W : World) : Prop where
  a0 : W.cell? ⟨w.heap.size, 0, none⟩ = some (.string a.key)
  a1 : W.cell? ⟨w.heap.size, 1, none⟩ = some (.string a.val)
  a2 : W.cell? ⟨w.heap.size, 2, none⟩ = some (.bool a.gone)
  b0 : W.cell? ⟨w.heap.size + 1, 0, none⟩ = some (.string b.key)
  b1 : W.cell? ⟨w.heap.size + 1, 1, none⟩ = some (.string b.val)
  b2 : W.cell? ⟨w.heap.size + 1, 2, none⟩ = some (.bool b.gone)
  rd : RdC W w.heap.size A n c l
  bel : Below w.heap.size w W
  sz : w.heap.size + 2 ≤ W.heap.size
section
variable {w W W' : World} {a b : Ch} {A : Option Addr} {n c : Nat} {l : List Ch}
theorem TR.step (h : TR w a b A n c l W) (hb : Below W.heap.size W W') : TR w a b A n c l W' := by
  have hs := h.sz
  have hc0 := fun (o : Nat) => hb.cell (p := ⟨w.heap.size, o, none⟩) (show w.heap.size < W.heap.size by omega)
  have hc1 := fun (o : Nat) => hb.cell (p := ⟨w.heap.size + 1, o, none⟩) (show w.heap.size + 1 < W.heap.size by omega)
  have hbw : Below w.heap.size W W' := hb.mono (by omega)
  exact ⟨(hc0 0).trans h.a0, (hc0 1).trans h.a1, (hc0 2).trans h.a2, (hc1 0).trans h.b0, (hc1 1).trans h.b1, (hc1 2).trans h.b2, h.rd.below hbw, h.bel.trans hbw, by have := hb.size; omega⟩
theorem TR.alloc (h : TR w a b A n c l W) (o : Obj) : TR w a b A n c l (W.alloc o) := h.step ((Below.refl _ _).alloc (Nat.le_refl _) o)
theorem TR.drewN (h : TR w a b A n c l W) (k : Nat) : TR w a b A n c l (W.drewN k) := h.step ⟨rfl, rfl, rfl, Nat.le_refl _, fun _ _ => rfl⟩
theorem TR.drew (h : TR w a b A n c l W) : TR w a b A n c l W.drew := h.drewN 1
theorem TR.start (h : RdC w w.heap.size A n c l) (t : TypeId) : TR w a b A n c l ((w.alloc (.cells #[.string a.key, .string a.val, .bool a.gone] t)).alloc (.cells #[.string b.key, .string b.val, .bool b.gone] t)) := by
  have h1 := StC.new w a.key a.val a.gone t
  have h2 := StC.new (w.alloc (.cells #[.string a.key, .string a.val, .bool a.gone] t)) b.key b.val b.gone t
  have hz : (w.alloc (.cells #[.string a.key, .string a.val, .bool a.gone] t)).heap.size = w.heap.size + 1 := by simp
  have h3 := h1.step ((Below.refl _ (w.alloc (.cells #[.string a.key, .string a.val, .bool a.gone] t))).alloc (Nat.le_refl _) (.cells #[.string b.key, .string b.val, .bool b.gone] t))
  have c0 := h2.c0
  have c1 := h2.c1
  have c2 := h2.c2
  rw [hz] at c0 c1 c2
  exact ⟨h3.c0, h3.c1, h3.c2, c0, c1, c2, h.below h3.b, h3.b, by simp⟩
end
end Go.Proofs.Ytgkenknplepmeaa
namespace Go.Proofs.Ytgkenknplepmeaa
open Go.RowKit

def ofV (s : ByteArray) : Value := if parB s then .tuple #[(parC s).v, .int .i64 0] else .tuple #[zeroC, .int .i64 4]
set_option maxHeartbeats 2000000 in
set_option maxRecDepth 100000 in
theorem changeOf_any (s : ByteArray) (w : World) (hs : s.size ≤ 1000000) : Calls Try.prog 33 #[.string s] w fun e w' => e = .returned (ofV s) ∧ Below w.heap.size w w' := by
  have mixed : Try.prog.follows .mixedOrders = true := by kernel_rfl
  unfold ofV parB
  by_cases h2 : s.size < 2
  · have d2 : (s.size : Int) < 2 := by omega
    rw [decide_eq_false (show ¬ 2 ≤ s.size by omega)]
    simp only [Bool.false_and, Bool.false_eq_true, if_false]
    unfold zeroC
    go_enter Try.func33, Try.ntmps33
    go_wp2
    (try simp only [Exit.inBlock, Exit.then])
    refine bodyPost_ret (v := .tuple #[.agg #[.string ByteArray.empty, .string ByteArray.empty, .bool false], .int .i64 4]) ?_ rfl ⟨rfl, (Below.refl _ _).alloc (Nat.le_refl _) _⟩
    rw [results_cell_tmp rfl]
    go_simp
    rfl
  · have d2 : decide ((s.size : Int) < 2) = false := decide_eq_false (by omega)
    have i0 : 0 < s.size := by omega
    have i1 : 1 < s.size := by omega
    have i0z : (0 : Int) < (s.size : Int) := by omega
    have i1z : (1 : Int) < (s.size : Int) := by omega
    have e0 : by0 s = s[0].toNat := by unfold by0; rw [by_at i0]
    have e1 : by1 s = s[1].toNat := by unfold by1; rw [by_at i1]
    rw [decide_eq_true (show 2 ≤ s.size by omega)]
    by_cases h0 : 1 < by0 s
    · have d0 : (1 : Int) < (s[0].toNat : Int) := by omega
      rw [decide_eq_false (show ¬ by0 s ≤ 1 by omega)]
      simp only [Bool.and_false, Bool.false_and, Bool.false_eq_true, if_false]
      unfold zeroC
      clear e0 e1
      go_enter Try.func33, Try.ntmps33
      go_wp2
      (try simp only [Exit.inBlock, Exit.then])
      refine bodyPost_ret (v := .tuple #[.agg #[.string ByteArray.empty, .string ByteArray.empty, .bool false], .int .i64 4]) ?_ rfl ⟨rfl, (Below.refl _ _).alloc (Nat.le_refl _) _⟩
      rw [results_cell_tmp rfl]
      go_simp
      rfl
    · have d0 : decide ((1 : Int) < (s[0].toNat : Int)) = false := decide_eq_false (by omega)
      rw [decide_eq_true (show by0 s ≤ 1 by omega)]
      have hb1 : s[1].toNat < 256 := s[1].toNat_lt
      by_cases h1 : s.size < 2 + by1 s
      · have d1 : (s.size : Int) < 2 + (s[1].toNat : Int) := by omega
        rw [decide_eq_false (show ¬ 2 + by1 s ≤ s.size by omega)]
        simp only [Bool.and_false, Bool.false_and, Bool.false_eq_true, if_false]
        unfold zeroC
        clear e0 e1
        go_enter Try.func33, Try.ntmps33
        go_wp2
        (try simp only [Exit.inBlock, Exit.then])
        refine bodyPost_ret (v := .tuple #[.agg #[.string ByteArray.empty, .string ByteArray.empty, .bool false], .int .i64 4]) ?_ rfl ⟨rfl, (Below.refl _ _).alloc (Nat.le_refl _) _⟩
        rw [results_cell_tmp rfl]
        go_simp
        rfl
      · have d1 : decide ((s.size : Int) < 2 + (s[1].toNat : Int)) = false := decide_eq_false (by omega)
        rw [decide_eq_true (show 2 + by1 s ≤ s.size by omega)]
        simp only [Bool.true_and]
        have hck := fun W => changeFault_any (parC s) W (by show (s.extract 2 (2 + by1 s)).size ≤ 1000000; simp; omega)
        unfold parC at *
        rw [e1] at *
        have hg : (by0 s == 1) = ((s[0].toNat : Int) == 1) := by
          rw [e0]
          by_cases q : s[0].toNat = 1
          · rw [q]; rfl
          · rw [beq_eq_false_iff_ne.2 q, beq_eq_false_iff_ne.2 (by omega)]
        obtain ⟨gone, hgo⟩ : ∃ g, g = (by0 s == 1) := ⟨_, rfl⟩
        simp only [← hgo] at hck hg ⊢
        have hgw := hg.symm
        have t1 : (2 + (s[1].toNat : Int)).toNat = 2 + s[1].toNat := by omega
        have t2 : (2 : Int) ≤ 2 + (s[1].toNat : Int) := by omega
        have t3 : 2 + (s[1].toNat : Int) ≤ (s.size : Int) := by omega
        have t4 : (0 : Int) ≤ 2 + (s[1].toNat : Int) := by omega
        clear hg hgo e0 e1 h0 h1
        generalize hkey : s.extract 2 (2 + s[1].toNat) = key at *
        generalize hval : s.extract (2 + s[1].toNat) s.size = val at *
        by_cases hz : ckR ⟨key, val, gone⟩ = 0
        · rw [hz] at hck
          rw [decide_eq_true hz]
          simp only [if_true]
          unfold Ch.v
          clear hz
          have HCK := Lib.hid hck
          clear hck
          go_enter Try.func33, Try.ntmps33
          go_wp2_with fail
          go_big_region_o
          have hst := (StC.new (w.alloc (.cells #[.string ⟨#[]⟩, .string ⟨#[]⟩, .bool false] 54)) key val gone 54).drew
          have hbk : Blk ((w.alloc (.cells #[.string ⟨#[]⟩, .string ⟨#[]⟩, .bool false] 54)).alloc (.cells #[.string key, .string val, .bool gone] 54)).drew w.heap.size 54 #[.string ⟨#[]⟩, .string ⟨#[]⟩, .bool false] := ((Blk.new w 54 #[.string ⟨#[]⟩, .string ⟨#[]⟩, .bool false]).alloc _).drew
          have hbw : Below w.heap.size w ((w.alloc (.cells #[.string ⟨#[]⟩, .string ⟨#[]⟩, .bool false] 54)).alloc (.cells #[.string key, .string val, .bool gone] 54)).drew := (((Below.refl _ _).alloc (Nat.le_refl _) _).alloc (by simp) _).drew
          obtain ⟨c0, c1, c2, _, hlt⟩ := hst
          rw [show (w.alloc (.cells #[.string ⟨#[]⟩, .string ⟨#[]⟩, .bool false] 54)).heap.size = w.heap.size + 1 by simp] at c0 c1 c2 hlt
          generalize ((w.alloc (.cells #[.string ⟨#[]⟩, .string ⟨#[]⟩, .bool false] 54)).alloc (.cells #[.string key, .string val, .bool gone] 54)).drew = W at *
          go_wp2_with fail
          refine (HCK.out W).mono ?_
          rintro e w1 ⟨rfl, hb1⟩
          have hc := fun (o : Nat) => hb1.cell (p := ⟨w.heap.size + 1, o, none⟩) hlt
          rw [← hc] at c0 c1 c2
          have hbk1 : Blk w1 w.heap.size 54 #[.string ⟨#[]⟩, .string ⟨#[]⟩, .bool false] := (hb1.block w.heap.size (by omega)).trans hbk
          have hbw1 : Below w.heap.size w w1 := hbw.trans (hb1.mono (by omega))
          have r0 := hbk1.cell 0
          have r1 := hbk1.cell 1
          have r2 := hbk1.cell 2
          have f0 := hbk1.free 0
          have f1 := hbk1.free 1
          have f2 := hbk1.free 2
          have HBW := Lib.hid hbw1
          have hbs : ∀ (o : Nat) (v : Value) (X : World), Below w.heap.size w X → Below w.heap.size w (X.setCell ⟨w.heap.size, o, none⟩ v) := fun o v X h => h.setCell (Nat.le_refl _) v
          have HBS := Lib.hid hbs
          clear hc hbk hbw hb1 hbk1 hbw1 HCK hbs hlt
          go_wp2
          (try simp only [Exit.inBlock, Exit.then])
          refine bodyPost_ret (v := .tuple #[.agg #[.string key, .string val, .bool gone], .int .i64 0]) ?_ rfl ⟨rfl, HBS.out _ _ _ (HBS.out _ _ _ (HBS.out _ _ _ HBW.out))⟩
          rw [results_cell_tmp rfl]
          go_simp
        · rw [decide_eq_false hz]
          simp only [Bool.false_eq_true, if_false]
          have hkk : (0 : Int) < ckR ⟨key, val, gone⟩ := by rcases ckR_cases ⟨key, val, gone⟩ with h | h | h <;> omega
          generalize ckR ⟨key, val, gone⟩ = kk at *
          unfold zeroC
          clear hz
          have HCK := Lib.hid hck
          clear hck
          go_enter Try.func33, Try.ntmps33
          go_wp2_with fail
          go_big_region_o
          have hst := (StC.new (w.alloc (.cells #[.string ⟨#[]⟩, .string ⟨#[]⟩, .bool false] 54)) key val gone 54).drew
          have hbk : Blk ((w.alloc (.cells #[.string ⟨#[]⟩, .string ⟨#[]⟩, .bool false] 54)).alloc (.cells #[.string key, .string val, .bool gone] 54)).drew w.heap.size 54 #[.string ⟨#[]⟩, .string ⟨#[]⟩, .bool false] := ((Blk.new w 54 #[.string ⟨#[]⟩, .string ⟨#[]⟩, .bool false]).alloc _).drew
          have hbw : Below w.heap.size w ((w.alloc (.cells #[.string ⟨#[]⟩, .string ⟨#[]⟩, .bool false] 54)).alloc (.cells #[.string key, .string val, .bool gone] 54)).drew := (((Below.refl _ _).alloc (Nat.le_refl _) _).alloc (by simp) _).drew
          obtain ⟨c0, c1, c2, _, hlt⟩ := hst
          rw [show (w.alloc (.cells #[.string ⟨#[]⟩, .string ⟨#[]⟩, .bool false] 54)).heap.size = w.heap.size + 1 by simp] at c0 c1 c2 hlt
          generalize ((w.alloc (.cells #[.string ⟨#[]⟩, .string ⟨#[]⟩, .bool false] 54)).alloc (.cells #[.string key, .string val, .bool gone] 54)).drew = W at *
          go_wp2_with fail
          refine (HCK.out W).mono ?_
          rintro e w1 ⟨rfl, hb1⟩
          have hc := fun (o : Nat) => hb1.cell (p := ⟨w.heap.size + 1, o, none⟩) hlt
          rw [← hc] at c0 c1 c2
          have hbk1 : Blk w1 w.heap.size 54 #[.string ⟨#[]⟩, .string ⟨#[]⟩, .bool false] := (hb1.block w.heap.size (by omega)).trans hbk
          have hbw1 : Below w.heap.size w w1 := hbw.trans (hb1.mono (by omega))
          have r0 := hbk1.cell 0
          have r1 := hbk1.cell 1
          have r2 := hbk1.cell 2
          have f0 := hbk1.free 0
          have f1 := hbk1.free 1
          have f2 := hbk1.free 2
          have HBW := Lib.hid hbw1
          have hbs : ∀ (o : Nat) (v : Value) (X : World), Below w.heap.size w X → Below w.heap.size w (X.setCell ⟨w.heap.size, o, none⟩ v) := fun o v X h => h.setCell (Nat.le_refl _) v
          have HBS := Lib.hid hbs
          clear hc hbk hbw hb1 hbk1 hbw1 HCK hbs hlt
          go_wp2
          (try simp only [Exit.inBlock, Exit.then])
          refine bodyPost_ret (v := .tuple #[.agg #[.string ByteArray.empty, .string ByteArray.empty, .bool false], .int .i64 4]) ?_ rfl ⟨rfl, HBS.out _ _ _ (HBS.out _ _ _ (HBS.out _ _ _ HBW.out))⟩
          rw [results_cell_tmp rfl]
          go_simp
          rfl

def cbV (c : Ch) : Value := if ckR c = 0 then .tuple #[.string (encR c), .int .i64 0] else .tuple #[.string ⟨#[]⟩, .int .i64 (ckR c)]
theorem enc_two (c : Ch) (h : c.key.size ≤ 10) : encR c = ofBytes 2 (fun m => if m = 0 then (if c.gone then 1 else 0) else UInt8.ofNat c.key.size) ++ c.key ++ c.val := by
  apply list_eq
  rw [encR_list]
  simp only [ByteArray.data_append, Array.toList_append, ofBytes]
  have e : numF c.key.size 0 = UInt8.ofNat c.key.size := by
    unfold numF
    rw [Nat.pow_zero, Nat.div_one, Nat.mod_eq_of_lt (by omega)]
  rw [e]
  cases c.gone <;> rfl
set_option maxHeartbeats 2000000 in
set_option maxRecDepth 100000 in
theorem changeBytes_any (c : Ch) (w : World) (hs : c.key.size ≤ 1000000) (hv : c.val.size ≤ 1000000) : Calls Try.prog 31 #[c.v] w fun e w' => e = .returned (cbV c) ∧ Below w.heap.size w w' := by
  have HC := Lib.hid (fun w => changeFault_any c w hs)
  unfold cbV
  by_cases h0 : ckR c = 0
  · have hk := ckR_key h0
    have hen := enc_two c hk
    rw [h0] at HC
    rw [if_pos h0, hen]
    obtain ⟨key, val, gone⟩ := c
    unfold Ch.v at *
    simp only at *
    clear h0 hen
    have hwr : IntKind.u8.wrap (key.size : Int) = (key.size : Int) := by
      unfold IntKind.wrap
      simp [IntKind.bits, IntKind.signed]
      omega
    have H0 := Lib.hid (StC.new w key val gone 54)
    cases gone with
    | true =>
      simp only [if_true, Bool.false_eq_true, if_false]
      have hback := fun W : World => convert_back (P := Try.prog) (W.alloc (.cells #[.int .u8 1, .int .u8 (key.size : Int)] 5)) 107 9 5 W.heap.size 2 2 (fun m => if m = 0 then 1 else UInt8.ofNat key.size) Try.underlying107 Try.underlying5 Try.underlying9 (by
        refine ⟨#[.int .u8 1, .int .u8 (key.size : Int)], 5, _, Blk.new W 5 #[.int .u8 1, .int .u8 (key.size : Int)], .inr rfl, fun j hj => ?_⟩
        match j, hj with
        | 0, _ => rfl
        | 1, _ =>
          show some (Value.int .u8 (key.size : Int)) = some (.int .u8 ((UInt8.ofNat key.size).toNat : Int))
          rw [UInt8.toNat_ofNat_of_lt' (show key.size < UInt8.size by show key.size < 256; omega)])
      have zz : (ofBytes 2 (fun m => if m = 0 then (1 : UInt8) else UInt8.ofNat key.size)).size = 2 := by
        show (((List.range 2).map _).toArray).size = 2
        simp
      generalize ofBytes 2 (fun m => if m = 0 then (1 : UInt8) else UInt8.ofNat key.size) = n12 at *
      have q2 : ¬ ((9223372036854775807 : Int) < (n12.size : Int) + (key.size : Int)) := by omega
      have q3 : ¬ ((9223372036854775807 : Int) < (n12.size : Int) + (key.size : Int) + (val.size : Int)) := by omega
      have t2 : Op.stringOp .add n12 key = pure (.string (n12 ++ key)) := by unfold Op.stringOp; simp [IntKind.max, IntKind.signed, IntKind.bits]; omega
      have t3 : Op.stringOp .add (n12 ++ key) val = pure (.string (n12 ++ key ++ val)) := by unfold Op.stringOp; simp [IntKind.max, IntKind.signed, IntKind.bits]; omega
      go_enter Try.func31, Try.ntmps31
      go_wp2_with fail
      refine (HC.out _).mono ?_
      rintro e w1 ⟨rfl, hb1⟩
      have st1 := H0.out.step hb1
      have st2 := st1.step ((Below.refl _ _).alloc (Nat.le_refl _) (.cells #[.int .u8 1, .int .u8 (key.size : Int)] 5))
      have c0 := st1.c0
      have c1 := st1.c1
      have c2 := st1.c2
      have d0 := st2.c0
      have d1 := st2.c1
      have hbk := hback w1
      clear hb1 H0 hback
      go_wp2
      go_ret2
      exact ⟨rfl, st2.b⟩
    | false =>
      simp only [if_true, Bool.false_eq_true, if_false]
      have hback := fun W : World => convert_back (P := Try.prog) (W.alloc (.cells #[.int .u8 0, .int .u8 (key.size : Int)] 5)) 107 9 5 W.heap.size 2 2 (fun m => if m = 0 then 0 else UInt8.ofNat key.size) Try.underlying107 Try.underlying5 Try.underlying9 (by
        refine ⟨#[.int .u8 0, .int .u8 (key.size : Int)], 5, _, Blk.new W 5 #[.int .u8 0, .int .u8 (key.size : Int)], .inr rfl, fun j hj => ?_⟩
        match j, hj with
        | 0, _ => rfl
        | 1, _ =>
          show some (Value.int .u8 (key.size : Int)) = some (.int .u8 ((UInt8.ofNat key.size).toNat : Int))
          rw [UInt8.toNat_ofNat_of_lt' (show key.size < UInt8.size by show key.size < 256; omega)])
      have zz : (ofBytes 2 (fun m => if m = 0 then (0 : UInt8) else UInt8.ofNat key.size)).size = 2 := by
        show (((List.range 2).map _).toArray).size = 2
        simp
      generalize ofBytes 2 (fun m => if m = 0 then (0 : UInt8) else UInt8.ofNat key.size) = n12 at *
      have q2 : ¬ ((9223372036854775807 : Int) < (n12.size : Int) + (key.size : Int)) := by omega
      have q3 : ¬ ((9223372036854775807 : Int) < (n12.size : Int) + (key.size : Int) + (val.size : Int)) := by omega
      have t2 : Op.stringOp .add n12 key = pure (.string (n12 ++ key)) := by unfold Op.stringOp; simp [IntKind.max, IntKind.signed, IntKind.bits]; omega
      have t3 : Op.stringOp .add (n12 ++ key) val = pure (.string (n12 ++ key ++ val)) := by unfold Op.stringOp; simp [IntKind.max, IntKind.signed, IntKind.bits]; omega
      go_enter Try.func31, Try.ntmps31
      go_wp2_with fail
      refine (HC.out _).mono ?_
      rintro e w1 ⟨rfl, hb1⟩
      have st1 := H0.out.step hb1
      have st2 := st1.step ((Below.refl _ _).alloc (Nat.le_refl _) (.cells #[.int .u8 0, .int .u8 (key.size : Int)] 5))
      have c0 := st1.c0
      have c1 := st1.c1
      have c2 := st1.c2
      have d0 := st2.c0
      have d1 := st2.c1
      have hbk := hback w1
      clear hb1 H0 hback
      go_wp2
      go_ret2
      exact ⟨rfl, st2.b⟩
  · have hne : (0 : Int) < ckR c := by rcases ckR_cases c with h | h | h <;> omega
    rw [if_neg h0]
    generalize ckR c = k at *
    obtain ⟨key, val, gone⟩ := c
    unfold Ch.v at *
    simp only at *
    clear h0
    have H0 := Lib.hid (StC.new w key val gone 54)
    go_enter Try.func31, Try.ntmps31
    go_wp2_with fail
    refine (HC.out _).mono ?_
    rintro e w1 ⟨rfl, hb1⟩
    have st1 := H0.out.step hb1
    clear hb1 H0
    go_wp2
    go_ret2
    exact ⟨rfl, st1.b⟩
end Go.Proofs.Ytgkenknplepmeaa
