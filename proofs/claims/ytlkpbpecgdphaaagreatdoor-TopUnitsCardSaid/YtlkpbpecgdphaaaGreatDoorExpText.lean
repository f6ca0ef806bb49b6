/-
  THE WALK OF expand.Text: what a text comes to (expR), for texts of at most 1000 bytes and variables of at most 1000 bytes.
-/
import Derived.Test.YtlkpbpecgdphaaaGreatDoorLast
import Derived.Test.YtlkpbpecgdphaaaGreatDoorVar
import Derived.Test.YtlkpbpecgdphaaaGreatDoorMax
import Derived.Maps.OwnSet
import Derived.Maps.StringElems
import Derived.DeepKeys5
import Derived.Carry
import Derived.Deep.RegionHeld3
namespace Go.Proofs.YtlkpbpecgdphaaaGreatDoor
open Go.RowKit

theorem laidOutP : laidOutB Tryz.prog = true := by kernel_rfl
theorem refKeyed : Maps.Keyed Tryz.prog 215 := Maps.Keyed.of_law (deep_law_gate laidOutP (of_decide_eq_true (by kernel_rfl)) (of_decide_eq_true (by kernel_rfl)) (by kernel_rfl) (by kernel_rfl))
def refV (s : ByteArray) (d : Int) : Value := .agg #[.string s, .int .i64 d]
theorem refKey (s : ByteArray) (d : Int) (hs : s.size ≤ maxLen) (hd : (Lit.int .i64 d).wf = true) : ∃ kl, keyOf Tryz.prog 215 (refV s d) = some kl := by
  have hk : Tryz.prog.keyType 215 = true := by kernel_rfl
  have hc : Tryz.prog.cellsOf 215 = 2 := by kernel_rfl
  have hc3 : Tryz.prog.cellsOf 3 = 1 := by kernel_rfl
  have hc9 : Tryz.prog.cellsOf 9 = 1 := by kernel_rfl
  have ht : Tryz.prog.types.size = 1 + (Tryz.prog.types.size - 1) := by kernel_rfl
  unfold keyOf refV
  rw [Tryz.underlying215]
  simp only [hk, Value.formed, Tryz.underlying215, hc, Bool.true_and, Value.cells]
  have h3 : ∀ m, Tryz.prog.keyLits (m + 1) 3 [.int .i64 d] = some [.int .i64 d] := by
    intro m
    unfold Program.keyLits
    rw [Tryz.underlying3]
    simp [hd]
  have h9 : ∀ m, Tryz.prog.keyLits (m + 1) 9 [.string s] = some [.string s.data.toList] := by
    intro m
    unfold Program.keyLits
    rw [Tryz.underlying9]
    simp [hs]
  unfold Program.keyLits
  rw [Tryz.underlying215, ht, Nat.add_comm 1]
  simp [hc, hc3, hc9, h3, h9]

/-- The map at block bm holds at most n references, and of each (k levels left) what it comes to. -/
def Memo (l : List F) (w : World) (bm n : Nat) : Prop := ∃ D : DataW Unit, w.ownsMap Tryz.prog 215 (plainElem Tryz.prog 9) bm n D ∧
  ∀ (s : ByteArray) (k : Nat) (kl : Lit), k ≤ 5 → keyOf Tryz.prog 215 (refV s (6 - k)) = some kl → Maps.has D kl = true → ∃ t, (∀ z, D.atKey kl z = .lit (.string t)) ∧ valR l k s.data.toList = (0, t)
section
variable {l : List F} {w w' : World} {bm n : Nat}
theorem Memo.made (l : List F) (w : World) : Memo l (w.alloc (.map #[] 0)) w.heap.size 0 :=
  ⟨.map [], World.ownsMap_made _ _ _ _, fun s k kl _ _ h => by simp [Maps.has] at h⟩
theorem Memo.kept {row : Option Nat} (h : Memo l w bm n) (hg : w.grownBy w' row) (hne : some bm ≠ row) : Memo l w' bm n := by
  obtain ⟨D, ho, hh⟩ := h
  exact ⟨D, ho.kept hg hne, hh⟩
theorem Memo.lt (h : Memo l w bm n) : bm < w.heap.size := by obtain ⟨D, ho, _⟩ := h; exact ho.lt
theorem grown_of_below (h : Below w.heap.size w w') : w.grownBy w' none := ⟨h.os, h.tape, h.output, h.size, fun k hk _ => h.block k hk⟩
theorem Memo.below (h : Memo l w bm n) (hb : Below w.heap.size w w') : Memo l w' bm n := h.kept (grown_of_below hb) (by simp)
theorem wf_depth {k : Nat} (hk : k ≤ 5) : (Lit.int .i64 (6 - (k : Int))).wf = true := by
  match k, hk with
  | 0, _ => decide
  | 1, _ => decide
  | 2, _ => decide
  | 3, _ => decide
  | 4, _ => decide
  | 5, _ => decide
theorem zeroS (w : World) : (zeroValue 9).run Tryz.prog w = .ok (.string ByteArray.empty) w := by kernel_rfl
/-- A look-up: it is there, and it is what the reference comes to; or it isn't. -/
theorem Memo.look (h : Memo l w bm n) (s : ByteArray) (k : Nat) (hs : s.size ≤ maxLen) (hk : k ≤ 5) :
    (∃ t : ByteArray, (Instr.lookup 192 (.map (some bm)) (.agg #[.string s, .int .i64 (6 - k)]) true).run Tryz.prog w = .ok (.tuple #[.string t, .bool true]) w ∧ valR l k s.data.toList = (0, t.data.toList)) ∨
    (∃ t : ByteArray, (Instr.lookup 192 (.map (some bm)) (.agg #[.string s, .int .i64 (6 - k)]) true).run Tryz.prog w = .ok (.tuple #[.string t, .bool false]) w) := by
  obtain ⟨D, ho, hh⟩ := h
  obtain ⟨kl, hkl⟩ := refKey s (6 - k) hs (wf_depth hk)
  obtain ⟨v, ps, hrun, hv⟩ := ho.look_ok refKeyed Tryz.underlying192 (zeroS w) (plainElem_string Tryz.underlying9 (by decide)) hkl
  obtain ⟨t, rfl, ht, _⟩ := plainElem_string_inv Tryz.underlying9 hv
  cases hb : Maps.has D kl with
  | false => rw [hb] at hrun; exact .inr ⟨t, hrun⟩
  | true =>
    rw [hb] at hrun
    obtain ⟨t', h1, h2⟩ := hh s k kl hk hkl hb
    refine .inl ⟨t, hrun, ?_⟩
    rw [h1] at ht
    simp only [Prod.mk.injEq, DataW.lit.injEq, Lit.string.injEq] at ht
    rw [h2, ht.1]
/-- A store of what the reference comes to. -/
theorem Memo.store (h : Memo l w bm n) (s t : ByteArray) (k : Nat) (hs : s.size ≤ maxLen) (ht : t.size ≤ maxLen) (hk : k ≤ 5) (hn : n < maxLen) (hv : valR l k s.data.toList = (0, t.data.toList)) :
    ∃ w', (Instr.mapUpdate 192 (.map (some bm)) (.agg #[.string s, .int .i64 (6 - k)]) (.string t)).run Tryz.prog w = .ok () w' ∧ Memo l w' bm (n + 1) ∧ w.grownBy w' (some bm) := by
  obtain ⟨D, ho, hh⟩ := h
  obtain ⟨kl, hkl⟩ := refKey s (6 - k) hs (wf_depth hk)
  have hkk := refKeyed.key hkl
  obtain ⟨w', hrun, ho', hg⟩ := ho.store refKeyed Tryz.underlying192 hn hkl (plainElem_string Tryz.underlying9 ht)
  refine ⟨w', hrun, ⟨_, ho', fun s2 k2 kl2 hk2 hkl2 hh2 => ?_⟩, hg.grown⟩
  by_cases e : kl2 = kl
  · subst e
    have := refKeyed.inj hkl2 hkl
    unfold refV at this
    simp only [Value.agg.injEq, Array.mk.injEq, List.cons.injEq, Value.string.injEq, Value.int.injEq, true_and, and_true] at this
    obtain ⟨rfl, e2⟩ := this
    obtain rfl : k2 = k := by omega
    exact ⟨t.data.toList, fun z => Maps.atKey_put_same ho.isMap hkk _ _, hv⟩
  · rw [Maps.has_put_other e] at hh2
    obtain ⟨t2, h1, h2⟩ := hh s2 k2 kl2 hk2 hkl2 hh2
    exact ⟨t2, fun z => by rw [Maps.atKey_put_other e]; exact h1 z, h2⟩
end

/-- One expansion in memory: the struct at block bx, its variables, its map at block bm. -/
structure ExpOk (l : List F) (w : World) (bx bm n : Nat) (A : Option Addr) (nv cv : Nat) : Prop where
  vars : w.cell? ⟨bx, 0, none⟩ = some (.slice A nv cv)
  done : w.cell? ⟨bx, 1, none⟩ = some (.map (some bm))
  rd : RdF w w.heap.size A nv cv l
  memo : Memo l w bm n
  max : MaxOk w
theorem Memo.block {l : List F} {w : World} {bm n : Nat} (h : Memo l w bm n) : ∃ es c, w.heap[bm]? = some (.map es c) := by
  obtain ⟨D, ⟨es, c, hb, _⟩, _⟩ := h
  exact ⟨es, c, hb⟩
/-- A cell lies in no map. -/
theorem cell_past_map {w w' : World} {bm : Nat} {a : Addr} {v : Value} (hb : ∃ es c, w.heap[bm]? = some (.map es c)) (hg : w.grownBy w' (some bm)) (h : w.cell? a = some v) : w'.cell? a = some v := by
  obtain ⟨es, c, hb⟩ := hb
  have hne : some a.block ≠ some bm := by
    intro e
    injection e with e
    unfold World.cell? at h
    rw [e, hb] at h
    simp at h
  exact (World.cell?_of_block (hg.block a.block (World.block_lt_of_cell? _ _ h) hne)).trans h
theorem RdF.past_map {w w' : World} {bm n c : Nat} {A : Option Addr} {l : List F} (h : RdF w w.heap.size A n c l) (hb : ∃ es c, w.heap[bm]? = some (.map es c)) (hg : w.grownBy w' (some bm)) : RdF w' w'.heap.size A n c l :=
  ⟨h.1, h.2.1, h.2.2.1, fun hn => by
    obtain ⟨b, off, e, hbb, hc⟩ := h.2.2.2 hn
    exact ⟨b, off, e, Nat.lt_of_lt_of_le hbb hg.size, fun j u hu => cell_past_map hb hg (hc j u hu)⟩⟩
theorem MaxOk.past_map {w w' : World} {bm : Nat} (h : MaxOk w) (hb : ∃ es c, w.heap[bm]? = some (.map es c)) (hg : w.grownBy w' (some bm)) : MaxOk w' := by
  obtain ⟨m, hm⟩ := h
  exact ⟨m, cell_past_map hb hg hm⟩
section
variable {l : List F} {w w' : World} {bx bm n nv cv : Nat} {A : Option Addr}
theorem ExpOk.lt (h : ExpOk l w bx bm n A nv cv) : bx < w.heap.size := World.block_lt_of_cell? _ _ h.vars
theorem ExpOk.below (h : ExpOk l w bx bm n A nv cv) (hb : Below w.heap.size w w') : ExpOk l w' bx bm n A nv cv :=
  ⟨(hb.cell h.lt).trans h.vars, (hb.cell h.lt).trans h.done, h.rd.belowS hb, h.memo.below hb, h.max.below hb⟩
/-- .. where the map has turned, and reads on as it should. -/
theorem ExpOk.turned {n' : Nat} (h : ExpOk l w bx bm n A nv cv) (hg : w.grownBy w' (some bm)) (hm : Memo l w' bm n') : ExpOk l w' bx bm n' A nv cv :=
  ⟨cell_past_map h.memo.block hg h.vars, cell_past_map h.memo.block hg h.done, h.rd.past_map h.memo.block hg, hm, h.max.past_map h.memo.block hg⟩
theorem ExpOk.mono {n' : Nat} (h : ExpOk l w bx bm n A nv cv) (hn : n ≤ n') : ExpOk l w bx bm n' A nv cv := by
  obtain ⟨D, ho, hh⟩ := h.memo
  exact ⟨h.vars, h.done, h.rd, ⟨D, ho.mono hn, hh⟩, h.max⟩
end
theorem grown_trans {a b c : World} {row : Option Nat} (h : a.grownBy b row) (k : b.grownBy c row) : a.grownBy c row :=
  ⟨k.os.trans h.os, k.tape.trans h.tape, k.output.trans h.output, Nat.le_trans h.size k.size, fun i hi hr => (k.block i (Nat.lt_of_lt_of_le hi h.size) hr).trans (h.block i hi hr)⟩
theorem grown_below {w w' : World} (h : Below w.heap.size w w') (row : Option Nat) : w.grownBy w' row := ⟨h.os, h.tape, h.output, h.size, fun k hk _ => h.block k hk⟩
end Go.Proofs.YtlkpbpecgdphaaaGreatDoor
namespace Go.Proofs.YtlkpbpecgdphaaaGreatDoor
open Go.RowKit

/-- So many references may be laid into the map on the way, k levels left. -/
def cst : Nat → Nat
  | 0 => 0
  | k + 1 => 1 + 1000 * cst k
def TxPost (l : List F) (r : Nat × Bs) (m bx bm n : Nat) (A : Option Addr) (nv cv : Nat) (w : World) (e : Ending) (w' : World) : Prop :=
  ∃ n', n' ≤ n + m ∧ e = .returned (.tuple #[.string (ba r.2), errV r.1]) ∧ ExpOk l w' bx bm n' A nv cv ∧ w.grownBy w' (some bm)
def VALUE (l : List F) (k : Nat) : Prop := ∀ (s : ByteArray) (w : World) (bx bm n : Nat) (A : Option Addr) (nv cv : Nat), ExpOk l w bx bm n A nv cv → nv ≤ 1000000 → s.size ≤ 1000 → n + cst k ≤ 4611686018427387904 →
  Calls Tryz.prog 173 #[.pointer (some ⟨bx, 0, none⟩), .agg #[.string s, .int .i64 (6 - (k : Int))]] w (TxPost l (valR l k s.data.toList) (cst k) bx bm n A nv cv w)
def TEXT (l : List F) (k : Nat) : Prop := ∀ (s : ByteArray) (w : World) (bx bm n : Nat) (A : Option Addr) (nv cv : Nat), ExpOk l w bx bm n A nv cv → nv ≤ 1000000 → s.size ≤ 1000 → n + s.size * cst k ≤ 4611686018427387904 →
  Calls Tryz.prog 152 #[.pointer (some ⟨bx, 0, none⟩), .string s, .int .i64 (5 - (k : Int))] w (TxPost l (expR l k s.data.toList) (s.size * cst k) bx bm n A nv cv w)

theorem errV_pos {k : Int} (h : k ≠ 0) : errV k = .iface 80 (.int .i64 k) := by unfold errV; rw [if_neg h]
theorem errV_nil : errV 0 = .nilIface := rfl
theorem txv0 {r : Nat × Bs} {t : ByteArray} (h : r = (0, t.data.toList)) : Value.tuple #[.string (ba r.2), errV r.1] = .tuple #[.string t, .nilIface] := by
  subst h
  show Value.tuple #[.string (ba t.data.toList), .nilIface] = _
  rw [ba_of]
theorem txvE {r : Nat × Bs} (c : Nat) (hc : c ≠ 0) (h : r = (c, [])) : Value.tuple #[.string (ba r.2), errV r.1] = .tuple #[.string ⟨#[]⟩, .iface 80 (.int .i64 c)] := by
  subst h
  rw [errV_pos (by show (c : Int) ≠ 0; omega)]
  rfl
theorem valR_bad {l : List F} {k : Nat} {s : ByteArray} (h : varOk s = false) : valR l k s.data.toList = (4, []) := by
  cases k <;> (unfold valR; rw [ba_of, h]; simp)
theorem valR_none {l : List F} {k : Nat} {s : ByteArray} (h : varOk s = true) (hl : lastV l s = none) : valR l k s.data.toList = (5, []) := by
  cases k <;> (unfold valR; rw [ba_of, h, hl]; simp)
theorem valR_deep {l : List F} {s t : ByteArray} (h : varOk s = true) (hl : lastV l s = some t) : valR l 0 s.data.toList = (9, []) := by
  unfold valR; rw [ba_of, h, hl]; simp
theorem valR_text {l : List F} {k : Nat} {s t : ByteArray} (h : varOk s = true) (hl : lastV l s = some t) : valR l (k + 1) s.data.toList = expR l k t.data.toList := by
  unfold valR expR; rw [ba_of, h, hl]; simp
theorem lastV_mem {l : List F} {n t : ByteArray} (h : lastV l n = some t) : ∃ v ∈ l, v.2 = t := by
  unfold lastV at h
  rw [Option.map_eq_some_iff] at h
  obtain ⟨v, h1, h2⟩ := h
  exact ⟨v, List.mem_reverse.1 (List.mem_of_find?_eq_some h1), h2⟩
theorem expL_err {V : Bs → Nat × Bs} : ∀ (n : Nat) (out s : Bs), (expL V n out s).1 ≠ 0 → (expL V n out s).2 = [] := by
  intro n
  induction n with
  | zero => intro out s h; simp [expL] at h
  | succ n ih =>
    intro out s h
    rw [expL] at h ⊢
    split at h
    · split at h
      · split at h
        · split at h
          · simp only [*, if_true]
          · simp only [*, if_true, if_false]; exact ih _ _ h
        · simp only [*, if_true, if_false]
      · simp only [*, if_true]; rfl
    · split at h
      · simp only [*, if_true]; rfl
      · exact absurd rfl h

set_option maxHeartbeats 2000000 in
set_option maxRecDepth 100000 in
theorem value_step (l : List F) (hl : ∀ v ∈ l, v.2.size ≤ 1000) (k : Nat) (hk : k ≤ 5) (ht : ∀ k', k = k' + 1 → TEXT l k') : VALUE l k := by
  intro s w bx bm n A nv cv hE hnv hs hn
  have HE := Lib.hid hE
  have HT := Lib.hid ht
  have HL := Lib.hid hl
  clear hE ht hl
  obtain ⟨r, hr⟩ : ∃ r, r = valR l k s.data.toList := ⟨_, rfl⟩
  rw [← hr]
  have HR := Lib.hid hr
  clear hr
  obtain ⟨d, hd⟩ : ∃ d : Int, d = 6 - (k : Int) := ⟨_, rfl⟩
  rw [← hd]
  have HD := Lib.hid hd
  clear hd
  have hd6 : d ≤ 6 := by have := HD.out; omega
  have hd1 : 1 ≤ d := by have := HD.out; omega
  have hb1 : Below w.heap.size w (w.alloc (.cells #[.string s, .int .i64 d] 215)) := (Below.refl _ _).alloc (Nat.le_refl _) _
  have hc0 : (w.alloc (.cells #[.string s, .int .i64 d] 215)).cell? ⟨w.heap.size, 0, none⟩ = some (.string s) := by rw [World.cell?_alloc_at _ _ _ _ rfl]; rfl
  have hc1 : (w.alloc (.cells #[.string s, .int .i64 d] 215)).cell? ⟨w.heap.size, 1, none⟩ = some (.int .i64 d) := by rw [World.cell?_alloc_at _ _ _ _ rfl]; rfl
  have hs1 : (w.alloc (.cells #[.string s, .int .i64 d] 215)).heap.size = w.heap.size + 1 := by simp
  go_enter Tryz.func173, Tryz.ntmps173
  go_wp2_with fail
  generalize w.alloc (.cells #[.string s, .int .i64 d] 215) = wa at *
  have he := HE.out.below hb1
  have HG := Lib.hid (grown_below hb1 (some bm))
  have HB := Lib.hid hb1
  clear hb1 HE
  have hv0 : wa.drew.cell? ⟨bx, 0, none⟩ = some (.slice A nv cv) := he.vars
  have hv1 : wa.drew.cell? ⟨bx, 1, none⟩ = some (.map (some bm)) := he.done
  have hc0' : wa.drew.cell? ⟨w.heap.size, 0, none⟩ = some (.string s) := hc0
  have hc1' : wa.drew.cell? ⟨w.heap.size, 1, none⟩ = some (.int .i64 d) := hc1
  have hm : Memo l wa.drew bm n := he.memo
  have hlk := hm.look s k (by unfold maxLen; omega) hk
  rw [← HD.out] at hlk
  have HE := Lib.hid (show ExpOk l wa.drew bx bm n A nv cv from ⟨he.vars, he.done, he.rd, he.memo, he.max⟩)
  have HG := Lib.hid (show w.grownBy wa.drew (some bm) from ⟨HG.out.os, HG.out.tape, HG.out.output, HG.out.size, HG.out.block⟩)
  clear he hm hc0 hc1
  rcases hlk with ⟨t, hrun, hval⟩ | ⟨t0, hrun⟩
  · rw [← HR.out] at hval
    have HV := Lib.hid hval
    clear hval
    go_region
    go_wp2
    go_ret2
    exact ⟨n, by omega, by rw [txv0 HV.out]; rfl, HE.out, HG.out⟩
  · go_region
    clear hrun
    generalize wa.drew = wb at *
    go_wp2_with fail
    refine (var_any s wb (by omega)).mono ?_
    rintro e wb' ⟨rfl, rfl⟩
    cases hvo : varOk s with
    | false =>
      have HV := Lib.hid (HR.out.trans (valR_bad hvo))
      go_wp2
      go_ret2
      exact ⟨n, by omega, by rw [txvE 4 (by decide) HV.out]; rfl, HE.out, HG.out⟩
    | true =>
      go_wp2_with fail
      have HE2 := Lib.hid (show ExpOk l wb.drew bx bm n A nv cv from ⟨HE.out.vars, HE.out.done, HE.out.rd, HE.out.memo, HE.out.max⟩)
      have HG2 := Lib.hid (show w.grownBy wb.drew (some bm) from ⟨HG.out.os, HG.out.tape, HG.out.output, HG.out.size, HG.out.block⟩)
      have hx0 : wb.drew.cell? ⟨bx, 0, none⟩ = some (.slice A nv cv) := hv0
      have hx1 : wb.drew.cell? ⟨w.heap.size, 0, none⟩ = some (.string s) := hc0'
      have hx2 : wb.drew.cell? ⟨w.heap.size, 1, none⟩ = some (.int .i64 d) := hc1'
      have hlt : w.heap.size < wb.drew.heap.size := World.block_lt_of_cell? _ _ hx1
      go_region_held3 (fun w' => w'.cell? ⟨bx, 0, none⟩ = some (.slice A nv cv) ∧ w'.cell? ⟨w.heap.size, 0, none⟩ = some (.string s))
        (first | exact ⟨hy0, hy1⟩ | exact ⟨hx0, hx1⟩)
        (first | (go_at_call 184; refine (last_any A nv cv l s hnv _ HE2.out.rd).mono ?_; rintro e wc ⟨rfl, hbc⟩; have he := HE2.out.below hbc; have hy0 := he.vars; have hy1 : wc.cell? ⟨w.heap.size, 0, none⟩ = some (.string s) := (hbc.cell (p := ⟨w.heap.size, 0, none⟩) hlt).trans hx1; have hy2 : wc.cell? ⟨w.heap.size, 1, none⟩ = some (.int .i64 d) := (hbc.cell (p := ⟨w.heap.size, 1, none⟩) hlt).trans hx2; have HE3 := Lib.hid he; have HG3 := Lib.hid (grown_trans HG2.out (grown_below hbc (some bm))); clear he hbc))
      cases hla : lastV l s with
      | none =>
        have HV := Lib.hid (HR.out.trans (valR_none hvo hla))
        simp only [Option.getD_none, Option.isSome_none]
        go_wp2
        go_ret2
        exact ⟨n, by omega, by rw [txvE 5 (by decide) HV.out]; rfl, HE3.out, HG3.out⟩
      | some t =>
        simp only [Option.getD_some, Option.isSome_some]
        have hts : t.size ≤ 1000 := by obtain ⟨v, hv, e⟩ := lastV_mem hla; rw [← e]; exact HL.out v hv
        clear hx0 hx1 hv0 hv1 hc0' hc1' HE HE2 HG HG2 HB hs1
        match k, hk, HR, HD, HT, hn with
        | 0, _, HR, HD, _, _ =>
          have HV := Lib.hid (HR.out.trans (valR_deep hvo hla))
          have hdd : (5 : Int) < d := by have := HD.out; omega
          go_wp2
          go_ret2
          exact ⟨n, by omega, by rw [txvE 9 (by decide) HV.out]; rfl, HE3.out, HG3.out⟩
        | k' + 1, hk, HR, HD, HT, hn =>
          have HV := Lib.hid (HR.out.trans (valR_text hvo hla))
          have hdd : decide ((5 : Int) < d) = false := decide_eq_false (by have := HD.out; omega)
          have hde : d = 5 - (k' : Int) := by have := HD.out; omega
          have hcs : cst (k' + 1) = 1 + 1000 * cst k' := rfl
          have hcm : t.size * cst k' ≤ 1000 * cst k' := Nat.mul_le_mul_right _ hts
          have HDE := Lib.hid hde
          have HCS := Lib.hid hcs
          have HCM := Lib.hid hcm
          have HN := Lib.hid hn
          clear hde hcs hcm hn
          go_wp2_with fail
          rw [HDE.out]
          refine (HT.out k' rfl t wc bx bm n A nv cv HE3.out hnv hts (by have h1 := HN.out; have h2 := HCS.out; have h3 := HCM.out; omega)).mono ?_
          rintro e wd ⟨n', hn', rfl, he4, hg4⟩
          have HN2 := Lib.hid hn'
          rw [← HV.out]
          have hblk := HE3.out.memo.block
          have z0 : wd.cell? ⟨w.heap.size, 0, none⟩ = some (.string s) := cell_past_map hblk hg4 hy1
          have z1 : wd.cell? ⟨w.heap.size, 1, none⟩ = some (.int .i64 d) := cell_past_map hblk hg4 hy2
          have HG5 := Lib.hid (grown_trans HG3.out hg4)
          have HE5 := Lib.hid he4
          clear hblk hg4 he4 hn' hy0 hy1 hy2
          obtain ⟨e, x⟩ := r
          by_cases h0 : e = 0
          · subst h0
            have hxl : x.length ≤ 600 := expL_len _ _ _ _ HV.out.symm
            have hzz : (ba x).size ≤ 600 := by rw [ba_size]; exact hxl
            have hst := (show Memo l wd.drew bm n' from HE5.out.memo).store s (ba x) (k' + 1) (by unfold maxLen; omega) (by unfold maxLen; omega) hk (by have h1 := HN.out; have h2 := HCS.out; have h3 := HCM.out; have h4 := HN2.out; unfold maxLen; omega) (by rw [ba_data]; exact HR.out.symm)
            rw [← HD.out] at hst
            obtain ⟨we, hrun, hme, hge⟩ := hst
            have hge' : wd.grownBy we (some bm) := ⟨hge.os, hge.tape, hge.output, hge.size, hge.block⟩
            have HE6 := Lib.hid (HE5.out.turned hge' hme)
            have HG6 := Lib.hid (grown_trans HG5.out hge')
            have q1 : wd.drew.cell? ⟨bx, 1, none⟩ = some (.map (some bm)) := HE5.out.done
            have q2 : wd.drew.cell? ⟨w.heap.size, 0, none⟩ = some (.string s) := z0
            have q3 : wd.drew.cell? ⟨w.heap.size, 1, none⟩ = some (.int .i64 d) := z1
            clear hge hge' hme
            have e0 : errV ((((0 : Nat), x) : Nat × Bs).1 : Int) = .nilIface := rfl
            rw [e0]
            go_wp2_with fail
            go_region
            go_wp2
            go_ret2
            exact ⟨n' + 1, by have h2 := HCS.out; have h3 := HCM.out; have h4 := HN2.out; omega, by rw [txv0 (t := ba x) (by rw [ba_data])]; rfl, HE6.out, HG6.out⟩
          · have hx0 : x = [] := by
              have := expL_err (V := valR l k') (t.data.toList.length + 1) [] t.data.toList
              have hv := HV.out
              unfold expR at hv
              rw [← hv] at this
              exact this h0
            subst hx0
            rw [errV_pos (by show (e : Int) ≠ 0; omega)]
            go_wp2
            go_ret2
            exact ⟨n', by have h2 := HCS.out; have h3 := HCM.out; have h4 := HN2.out; omega, by rw [txvE e h0 rfl]; rfl, HE5.out, HG5.out⟩

/-- Where the text's loop stands: what is out, and what is to come. -/
structure TxRel (l : List F) (k : Nat) (r : Nat × Bs) (N bx bm n : Nat) (A : Option Addr) (nv cv : Nat) (w : World) (o p q m : Value) (wr : World) : Prop where
  ex : ∃ (out rest : Bs) (fuel n' : Nat), o = .string (ba out) ∧ p = .string (ba (Lib.cut rest [36, 40]).1) ∧ q = .string (ba (Lib.cut rest [36, 40]).2.1) ∧ m = .bool (Lib.cut rest [36, 40]).2.2 ∧
    rest.length < fuel ∧ rest.length ≤ N ∧ out.length ≤ 600 ∧ expL (valR l k) fuel out rest = r ∧ n' + rest.length * cst k ≤ n + N * cst k ∧ ExpOk l wr bx bm n' A nv cv ∧ w.grownBy wr (some bm)
def restLen (p q m : Value) : Nat := match p, q, m with
  | .string a, .string b, .bool true => a.size + b.size + 2
  | .string a, _, _ => a.size
  | _, _, _ => 0

theorem valR_len (l : List F) (k : Nat) (nm : Bs) : (valR l k nm).1 = 0 → (valR l k nm).2.length ≤ 600 := by
  intro h
  cases k with
  | zero =>
    unfold valR at h
    split at h
    · split at h <;> simp at h
    · simp at h
  | succ k =>
    unfold valR at h ⊢
    split at h
    · rename_i hv
      rw [if_pos hv]
      split at h
      · simp at h
      · rename_i t hl
        exact expL_len t.size [] t.data.toList _ (Prod.ext h rfl)
    · simp at h
theorem restLen_cut (rest : Bs) : restLen (.string (ba (Lib.cut rest [36, 40]).1)) (.string (ba (Lib.cut rest [36, 40]).2.1)) (.bool (Lib.cut rest [36, 40]).2.2) = rest.length := by
  cases h : (Lib.cut rest [36, 40]).2.2 with
  | true =>
    have := cut_short h
    simp only [List.length_cons, List.length_nil] at this
    simp only [restLen, ba_size]
    omega
  | false =>
    obtain ⟨_, e⟩ := cut_miss h
    rw [e]
    simp [restLen, ba_size]
theorem succ_le_mul {a b c : Nat} (h : a + 1 ≤ b) : a * c + c ≤ b * c := by
  have := Nat.mul_le_mul_right c h
  rw [Nat.succ_mul] at this
  exact this

set_option maxHeartbeats 2000000 in
set_option maxRecDepth 100000 in
theorem text_step (l : List F) (k : Nat) (hk : k ≤ 5) (hV : VALUE l k) : TEXT l k := by
  intro s w bx bm n A nv cv hE hnv hs hn
  have HE := Lib.hid hE
  have HV := Lib.hid hV
  clear hE hV
  obtain ⟨r, hr⟩ : ∃ r, r = expR l k s.data.toList := ⟨_, rfl⟩
  rw [← hr]
  unfold expR at hr
  have HR := Lib.hid hr
  clear hr
  obtain ⟨d, hd⟩ : ∃ d : Int, d = 5 - (k : Int) := ⟨_, rfl⟩
  rw [← hd]
  have HD := Lib.hid hd
  clear hd
  have hd5 : d ≤ 5 := by have := HD.out; omega
  have hd0 : 0 ≤ d := by have := HD.out; omega
  have HN := Lib.hid hn
  clear hn
  go_enter Tryz.func152, Tryz.ntmps152
  go_wp2_with fail
  refine (cut_any s ⟨#[36, 40]⟩ [36, 40] rfl w (by omega) HE.out.max).mono ?_
  rintro e w1 ⟨j, rfl, rfl⟩
  have HE1 := Lib.hid (HE.out.below (below_drewN w j))
  have HG1 := Lib.hid (grown_below (below_drewN w j) (some bm))
  clear HE
  generalize w.drewN j = w1 at *
  unfold cutB
  go_wp2
  go_loopw [8, 9, 10, 11] (fun o p q m wr => TxRel l k r s.size bx bm n A nv cv w o p q m wr) (fun _ p q m _ => restLen p q m)
  case atStart => exact ⟨[], s.data.toList, s.data.toList.length + 1, n, rfl, rfl, rfl, rfl, by omega, by simp, by simp, HR.out.symm, by simp, HE1.out, HG1.out⟩
  case round =>
    obtain ⟨out, rest, fuel, n', rfl, rfl, rfl, rfl, hf, hrl, hol, hx, hc, he, hg⟩ := hrel.ex
    clear hrel
    have HX0 := Lib.hid hx
    have HC := Lib.hid hc
    have HE2 := Lib.hid he
    have HG2 := Lib.hid hg
    clear hx hc he hg
    have hrs := restLen_cut rest
    have HRS := Lib.hid hrs
    clear hrs
    obtain ⟨f, rfl⟩ : ∃ f, fuel = f + 1 := ⟨fuel - 1, by omega⟩
    have hx := HX0.out
    rw [expL] at hx
    clear HX0
    have hsh : (Lib.cut rest [36, 40]).2.2 = true → (Lib.cut rest [36, 40]).1.length + 2 + (Lib.cut rest [36, 40]).2.1.length = rest.length := fun h => by have := cut_short h; simpa using this
    have hms : (Lib.cut rest [36, 40]).2.2 = false → (Lib.cut rest [36, 40]).1 = rest := fun h => by rw [(cut_miss h).2]
    revert hx hsh hms HRS
    generalize Lib.cut rest [36, 40] = c
    obtain ⟨p, q, b⟩ := c
    intro HRS hx hsh hms
    dsimp only at HRS hsh hms hx ⊢
    cases b with
    | false =>
      have hpl : p.length ≤ 1000 := by rw [hms rfl]; omega
      simp only [Bool.false_eq_true, if_false] at hx
      have HX := Lib.hid hx
      have ho1 : (ba out).size ≤ 600 := by rw [ba_size]; exact hol
      have hp1 : (ba p).size ≤ 1000 := by rw [ba_size]; exact hpl
      have hsz : ((ba out).size : Int) + ((ba p).size : Int) = ((out ++ p).length : Int) := by rw [ba_size, ba_size]; simp
      have hap : ba (out ++ p) = ba out ++ ba p := ba_append out p
      clear hx hsh hms HRS
      by_cases hq : 600 < (out ++ p).length
      · have t1 : (600 : Int) < ((ba out).size : Int) + ((ba p).size : Int) := by rw [hsz]; omega
        clear hsz hap
        go_wp2
        go_ret2
        have hx := HX.out
        rw [if_pos hq] at hx
        exact ⟨n', by have := HC.out; omega, by rw [txvE 2 (by decide) hx.symm]; rfl, HE2.out, HG2.out⟩
      · have t1 : decide ((600 : Int) < ((ba out).size : Int) + ((ba p).size : Int)) = false := decide_eq_false (by rw [hsz]; omega)
        have HA := Lib.hid hap
        clear hsz hap
        go_wp2
        go_ret2
        have hx := HX.out
        rw [if_neg hq] at hx
        exact ⟨n', by have := HC.out; omega, by rw [txv0 (t := ba (out ++ p)) (by rw [ba_data]; exact hx.symm), HA.out]; rfl, HE2.out, HG2.out⟩
    | true =>
      have hsh' := hsh rfl
      clear hsh hms
      simp only [if_true] at hx
      have HX0 := Lib.hid hx
      clear hx
      have hqs : (ba q).size ≤ 1000 := by rw [ba_size]; omega
      go_wp2_with fail
      refine (cut_any (ba q) ⟨#[41]⟩ [41] rfl wr (by omega) HE2.out.max).mono ?_
      rintro e w2 ⟨j2, rfl, rfl⟩
      have HE3 := Lib.hid (HE2.out.below (below_drewN wr j2))
      have HG3 := Lib.hid (grown_trans HG2.out (grown_below (below_drewN wr j2) (some bm)))
      generalize wr.drewN j2 = w2 at *
      unfold cutB
      rw [ba_data]
      have hx := HX0.out
      clear HX0
      have hs2 : (Lib.cut q [41]).2.2 = true → (Lib.cut q [41]).1.length + 1 + (Lib.cut q [41]).2.1.length = q.length := fun h => by have := cut_short h; simpa using this
      revert hx hs2
      generalize Lib.cut q [41] = c2
      obtain ⟨nm, af, cl⟩ := c2
      intro hx hs2
      dsimp only at hx hs2 ⊢
      cases cl with
      | false =>
        simp only [Bool.false_eq_true, if_false] at hx
        have HX := Lib.hid hx
        clear hx
        go_wp2
        go_ret2
        exact ⟨n', by have := HC.out; omega, by rw [txvE 4 (by decide) HX.out.symm]; rfl, HE3.out, HG3.out⟩
      | true =>
        have hs2' := hs2 rfl
        simp only [if_true] at hx
        have HX := Lib.hid hx
        clear hx hs2
        have hnm : (ba nm).size ≤ 1000 := by rw [ba_size]; omega
        have hdn : d + 1 = 6 - (k : Int) := by have := HD.out; omega
        have HDN := Lib.hid hdn
        clear hdn
        have hmul := succ_le_mul (c := cst k) (show af.length + 1 ≤ rest.length by omega)
        have HML := Lib.hid hmul
        clear hmul
        go_wp2_with fail
        rw [HDN.out]
        refine (HV.out (ba nm) w2 bx bm n' A nv cv HE3.out hnv hnm (by have h1 := HML.out; have h2 := HC.out; have h3 := HN.out; omega)).mono ?_
        rintro e w3 ⟨n2, hn2, rfl, he4, hg4⟩
        rw [← HDN.out]
        rw [ba_data]
        have HE4 := Lib.hid he4
        have HG4 := Lib.hid (grown_trans HG3.out hg4)
        have HN2 := Lib.hid hn2
        clear he4 hg4 hn2 HE3 HG3 HE2 HG2
        have hx := HX.out
        clear HX
        have hvl : (valR l k nm).1 = 0 → (valR l k nm).2.length ≤ 600 := valR_len l k nm
        revert hx hvl
        generalize valR l k nm = rv
        obtain ⟨ev, v⟩ := rv
        intro hx hvl
        dsimp only at hx hvl
        by_cases h0 : ev = 0
        · subst h0
          have hvl' := hvl rfl
          simp only [if_true] at hx
          have HX := Lib.hid hx
          clear hx hvl
          have e0 : errV ((((0 : Nat), v) : Nat × Bs).1 : Int) = .nilIface := rfl
          rw [e0]
          clear e0
          have ho1 : (ba out).size ≤ 600 := by rw [ba_size]; exact hol
          have hp1 : (ba p).size ≤ 1000 := by rw [ba_size]; omega
          have hv1 : (ba v).size ≤ 600 := by rw [ba_size]; exact hvl'
          have hpv : (ba p ++ ba v).size ≤ 1600 := by rw [ByteArray.size_append]; omega
          have hsz : ((ba out).size : Int) + (((ba p).size : Int) + ((ba v).size : Int)) = ((out ++ (p ++ v)).length : Int) := by rw [ba_size, ba_size, ba_size]; simp
          have hap : ba (out ++ (p ++ v)) = ba out ++ (ba p ++ ba v) := by rw [ba_append, ba_append]
          have HA := Lib.hid hap
          clear hap
          by_cases hq : 600 < (out ++ (p ++ v)).length
          · have t1 : (600 : Int) < ((ba out).size : Int) + (((ba p).size : Int) + ((ba v).size : Int)) := by rw [hsz]; omega
            clear hsz
            go_wp2
            go_ret2
            have hx := HX.out
            rw [if_pos hq] at hx
            exact ⟨n2, by have h1 := HML.out; have h2 := HC.out; have h3 := HN2.out; omega, by rw [txvE 2 (by decide) hx.symm]; rfl, HE4.out, HG4.out⟩
          · have t1 : decide ((600 : Int) < ((ba out).size : Int) + (((ba p).size : Int) + ((ba v).size : Int))) = false := decide_eq_false (by rw [hsz]; omega)
            have hafs : (ba af).size ≤ 1000 := by rw [ba_size]; omega
            clear hsz
            go_wp2_with fail
            refine (cut_any (ba af) ⟨#[36, 40]⟩ [36, 40] rfl w3 (by omega) HE4.out.max).mono ?_
            rintro e w4 ⟨j4, rfl, rfl⟩
            have HE5 := Lib.hid (HE4.out.below (below_drewN w3 j4))
            have HG5 := Lib.hid (grown_trans HG4.out (grown_below (below_drewN w3 j4) (some bm)))
            generalize w3.drewN j4 = w4 at *
            unfold cutB
            rw [ba_data, ← HA.out]
            go_wp2
            go_roundw
            case rel =>
              have hx := HX.out
              rw [if_neg hq] at hx
              exact ⟨out ++ (p ++ v), af, f, n2, rfl, rfl, rfl, rfl, by omega, by omega, by omega, hx, by have h1 := HML.out; have h2 := HC.out; have h3 := HN2.out; omega, HE5.out, HG5.out⟩
            case measure =>
              rw [restLen_cut, HRS.out]
              omega
        · simp only [h0, if_false] at hx
          have HX := Lib.hid hx
          clear hx hvl
          rw [errV_pos (by show (ev : Int) ≠ 0; omega)]
          go_wp2
          go_ret2
          exact ⟨n2, by have h1 := HML.out; have h2 := HC.out; have h3 := HN2.out; omega, by rw [txvE ev h0 HX.out.symm]; rfl, HE4.out, HG4.out⟩
end Go.Proofs.YtlkpbpecgdphaaaGreatDoor
namespace Go.Proofs.YtlkpbpecgdphaaaGreatDoor
open Go.RowKit

theorem text_all (l : List F) (hl : ∀ v ∈ l, v.2.size ≤ 1000) : ∀ k, k ≤ 5 → TEXT l k := by
  intro k
  induction k with
  | zero => intro h; exact text_step l 0 h (value_step l hl 0 h (fun k' e => by omega))
  | succ k ih =>
    intro h
    refine text_step l (k + 1) h (value_step l hl (k + 1) h ?_)
    intro k' e
    have e2 : k' = k := by omega
    rw [e2]
    exact ih (by omega)

set_option maxHeartbeats 1000000 in
set_option maxRecDepth 100000 in
theorem expText_any (A : Option Addr) (n c : Nat) (l : List F) (s : ByteArray) (w : World) (h : RdF w w.heap.size A n c l) (hl : ∀ v ∈ l, v.2.size ≤ 1000) (hn : n ≤ 1000000) (hs : s.size ≤ 1000) (hm : MaxOk w) :
    Calls Tryz.prog 121 #[.slice A n c, .string s] w fun e w' => e = .returned (.tuple #[.string (ba (expR l 5 s.data.toList).2), errV (expR l 5 s.data.toList).1]) ∧ Below w.heap.size w w' := by
  have hmm := @run_makeMap Tryz.prog
  obtain ⟨r, hr⟩ : ∃ r, r = expR l 5 s.data.toList := ⟨_, rfl⟩
  rw [← hr]
  have HRR := Lib.hid hr
  clear hr
  have HR := Lib.hid h
  have HM := Lib.hid hm
  have HL := Lib.hid hl
  clear h hm hl
  have hb1 : Below w.heap.size w (w.alloc (.map #[] 0)) := (Below.refl _ _).alloc (Nat.le_refl _) _
  have hme := Memo.made l w
  have hs1 : (w.alloc (.map #[] 0)).heap.size = w.heap.size + 1 := by simp
  have hr1 := HR.out.belowS hb1
  have hx1 := HM.out.below hb1
  have hb2 : Below (w.alloc (.map #[] 0)).heap.size (w.alloc (.map #[] 0)) ((w.alloc (.map #[] 0)).alloc (.cells #[.slice A n c, .map (some w.heap.size)] 194)) := (Below.refl _ _).alloc (Nat.le_refl _) _
  have hc0 : ((w.alloc (.map #[] 0)).alloc (.cells #[.slice A n c, .map (some w.heap.size)] 194)).cell? ⟨(w.alloc (.map #[] 0)).heap.size, 0, none⟩ = some (.slice A n c) := by rw [World.cell?_alloc_at _ _ _ _ rfl]; rfl
  have hc1 : ((w.alloc (.map #[] 0)).alloc (.cells #[.slice A n c, .map (some w.heap.size)] 194)).cell? ⟨(w.alloc (.map #[] 0)).heap.size, 1, none⟩ = some (.map (some w.heap.size)) := by rw [World.cell?_alloc_at _ _ _ _ rfl]; rfl
  rw [hs1] at hc0 hc1
  have HE := Lib.hid (show ExpOk l ((w.alloc (.map #[] 0)).alloc (.cells #[.slice A n c, .map (some w.heap.size)] 194)) (w.heap.size + 1) w.heap.size 0 A n c from ⟨hc0, hc1, hr1.belowS hb2, hme.below hb2, hx1.below hb2⟩)
  have HB := Lib.hid (hb1.trans (hb2.mono (by rw [hs1]; omega)))
  clear hb1 hme hs1 hr1 hx1 hb2 hc0 hc1
  go_enter Tryz.func121, Tryz.ntmps121
  go_wp2_with fail
  generalize (w.alloc (.map #[] 0)).alloc (.cells #[.slice A n c, .map (some w.heap.size)] 194) = w2 at *
  refine (text_all l HL.out 5 (Nat.le_refl _) s w2 (w.heap.size + 1) w.heap.size 0 A n c HE.out hn hs ?_).mono ?_
  · have : cst 5 = 1001001001001 := by decide
    rw [this]
    omega
  rintro e w3 ⟨n', hn', rfl, he, hg⟩
  have HB3 := Lib.hid (HB.out.grown hg HB.out.size (fun k hk => by injection hk with hk; omega))
  clear he hg hn' HB HE
  rw [← HRR.out]
  go_wp2
  go_ret2
  exact ⟨rfl, HB3.out⟩
end Go.Proofs.YtlkpbpecgdphaaaGreatDoor
