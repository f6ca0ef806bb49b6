/-
  WALK: makefile.Parse: the description in a text (parseR), for texts of at most 100000 bytes.
-/
import Derived.Test.YtlkpbpecgdphaaaGreatDoorCheck
import Derived.Test.YtlkpbpecgdphaaaGreatDoorRefWords
namespace Go.Proofs.YtlkpbpecgdphaaaGreatDoor
open Go.RowKit

/-- A description whose rows lie from block B on. -/
structure MkOw (w : World) (B : Nat) (m : Mk) (vv vr vp : Value) (R : List Row3) : Prop where
  vars : w.ownsRow B 117 2 vv m.vars.length (fcells m.vars)
  rules : w.ownsRow B 115 3 vr R.length (rcells R)
  len : R.length = m.rules.length
  each : ∀ (i : Nat) (x : Row3) (u : Ru), R[i]? = some x → m.rules[i]? = some u → Own1 w B x.1 u.1 ∧ Own1 w B x.2.1 u.2.1 ∧ Own1 w B x.2.2 u.2.2
  phony : Own1 w B vp m.phony
section
variable {w w' : World} {B g : Nat} {m : Mk} {vv vr vp : Value} {R : List Row3}
theorem MkOk.ow (h : MkOk w B g m vv vr vp R) {B' : Nat} (hB : B' ≤ B) : MkOw w B' m vv vr vp R :=
  ⟨h.vars.mono hB, h.rules.mono hB, h.len, fun i x u hx hu => by obtain ⟨a, b, c⟩ := h.each i x u hx hu; exact ⟨a.mono hB, b.mono hB, c.mono hB⟩, h.phony.mono hB⟩
theorem MkOw.rd (h : MkOw w B m vv vr vp R) : MkRd w m vv vr vp R :=
  ⟨RdF.of_own h.vars, RdR.of_own h.rules, h.len, fun i x u hx hu => by obtain ⟨a, b, c⟩ := h.each i x u hx hu; exact ⟨Sl.own a, Sl.own b, Sl.own c⟩, Sl.own h.phony⟩
theorem own_kept_low {e : TypeId} {s : Nat} {v : Value} {n : Nat} {xs : List Value} {row : Option Nat} (h : w.ownsRow B e s v n xs) (hg : w.grownBy w' row) (hr : ∀ k, row = some k → k < B) : w'.ownsRow B e s v n xs :=
  h.kept hg (by
    cases hv : v.ownBlock with
    | none => exact .inl rfl
    | some k => exact .inr (fun e => by have h1 := (h.lt k hv).1; have h2 := hr k e.symm; omega))
/-- It stands where nothing from B on has turned. -/
theorem MkOw.kept {row : Option Nat} (h : MkOw w B m vv vr vp R) (hg : w.grownBy w' row) (hr : ∀ k, row = some k → k < B) : MkOw w' B m vv vr vp R :=
  ⟨own_kept_low h.vars hg hr, own_kept_low h.rules hg hr, h.len, fun i x u hx hu => by obtain ⟨a, b, c⟩ := h.each i x u hx hu; exact ⟨own_kept_low a hg hr, own_kept_low b hg hr, own_kept_low c hg hr⟩, own_kept_low h.phony hg hr⟩
theorem MkOw.below (h : MkOw w B m vv vr vp R) (hb : Below w.heap.size w w') : MkOw w' B m vv vr vp R := h.kept (grown_of_below hb) (fun k e => by cases e)
end
theorem mkOw0 (w : World) (B : Nat) : MkOw w B mk0 (.slice none 0 0) (.slice none 0 0) (.slice none 0 0) [] := ⟨World.ownsRow_nil _ _ _ _, World.ownsRow_nil _ _ _ _, rfl, fun i x u hx => by simp at hx, World.ownsRow_nil _ _ _ _⟩
def PaPost (s : ByteArray) (w : World) (e : Ending) (w' : World) : Prop := ∃ vv vr vp R, e = .returned (.tuple #[.agg #[vv, vr, vp], errV (parseR s).1]) ∧ MkOw w' w.heap.size (parseR s).2 vv vr vp R ∧ Below w.heap.size w w'
structure PaRel (s : ByteArray) (B g b0 : Nat) (w2 : World) (i : Value) (wr : World) : Prop where
  ex : ∃ (k : Nat) (m : Mk), k ≤ (lines s).length ∧ i = .int .i64 k ∧ linesR mk0 (lines s) = linesR m ((lines s).drop k) ∧ Sane m k ∧ MkIn wr B g m ∧ Fr g B w2 wr
theorem Fr.rdS {g B : Nat} {w w' : World} (h : Fr g B w w') {b n c : Nat} {l : List ByteArray} (hr : RdS w w.heap.size (some ⟨b, 0, none⟩) n c l) (hb : b < B) (hg : b ≠ g) : RdS w' w'.heap.size (some ⟨b, 0, none⟩) n c l :=
  ⟨hr.1, hr.2.1, hr.2.2.1, fun hn => by
    obtain ⟨b1, off, e, hbb, hc⟩ := hr.2.2.2 hn
    injection e with e
    injection e with e1 e2
    subst e1
    exact ⟨b, off, by rw [e2], Nat.lt_of_lt_of_le hbb h.size, fun j u hu => (h.cell (p := ⟨b, off + j, none⟩) hb hg).trans (hc j u hu)⟩⟩
theorem lines_size {s x : ByteArray} (h : x ∈ lines s) : x.size ≤ s.size := by
  unfold lines at h
  obtain ⟨l, hl, rfl⟩ := List.mem_map.1 h
  have key : ∀ (a : List UInt8) (l : List UInt8), l ∈ spn a → l.length ≤ a.length := by
    intro a
    induction a with
    | nil => intro l hl; simp [spn] at hl; subst hl; simp
    | cons b a ih =>
      intro l hl
      unfold spn at hl
      split at hl
      · rcases List.mem_cons.1 hl with rfl | hl
        · simp
        · have := ih l hl; simp; omega
      · split at hl
        · rename_i e; exact absurd e (spn_ne a)
        · rename_i h t e
          rcases List.mem_cons.1 hl with rfl | hl
          · have := ih h (by rw [e]; simp); simp; omega
          · have := ih l (by rw [e]; simp [hl]); simp; omega
  have := key _ l hl
  have h1 : (⟨l.toArray⟩ : ByteArray).size = l.length := ba_size l
  have h2 : s.data.toList.length = s.size := by simp
  rw [h1]
  omega
theorem lines_len (s : ByteArray) : (lines s).length ≤ s.size + 1 := by
  have h1 := spn_len s.data.toList
  have : (lines s).length = (spn s.data.toList).length := by simp [lines]
  simp at h1
  omega

theorem set3 {w : World} {b : Nat} {t : TypeId} {a0 a1 a2 : Value} (hb : w.heap[b]? = some (.cells #[a0, a1, a2] t (0, 0))) (u0 u1 u2 : Value) :
    (((w.setCell ⟨b, 0, none⟩ u0).setCell ⟨b, 1, none⟩ u1).setCell ⟨b, 2, none⟩ u2).heap[b]? = some (.cells #[u0, u1, u2] t (0, 0)) ∧ w.grownBy (((w.setCell ⟨b, 0, none⟩ u0).setCell ⟨b, 1, none⟩ u1).setCell ⟨b, 2, none⟩ u2) (some b) :=
  ⟨(heap_set3 (heap_set3 (heap_set3 hb u0).1 u1).2.1 u2).2.2, grown_trans (grown_trans (grown_set _ _ _ _) (grown_set _ _ _ _)) (grown_set _ _ _ _)⟩
theorem Fr.to_below {g B : Nat} {w w3 wr : World} (h : Fr g B w3 wr) (hb : Below w.heap.size w w3) (hB : w.heap.size ≤ B) (hg : w.heap.size ≤ g) : Below w.heap.size w wr :=
  ⟨h.os.trans hb.os, h.tape.trans hb.tape, h.output.trans hb.output, Nat.le_trans hb.size h.size, fun k hk => (h.block k (by omega) (by omega)).trans (hb.block k hk)⟩
set_option maxHeartbeats 4000000 in
set_option maxRecDepth 100000 in
theorem parse_any (s : ByteArray) (w : World) (hm : MaxOk w) (hz : s.size ≤ 9223372036854775807) : Calls Tryz.prog 27 #[.string s] w (PaPost s w) := by
  obtain ⟨r, hr⟩ : ∃ r, r = parseR s := ⟨_, rfl⟩
  have HR := Lib.hid hr
  clear hr
  have HM := Lib.hid hm
  clear hm
  have hb1 : Below w.heap.size w (w.alloc (.cells #[.slice none 0 0, .slice none 0 0, .slice none 0 0] 29)) := (Below.refl _ _).alloc (Nat.le_refl _) _
  have k0 : (w.alloc (.cells #[.slice none 0 0, .slice none 0 0, .slice none 0 0] 29)).heap[w.heap.size]? = some (.cells #[.slice none 0 0, .slice none 0 0, .slice none 0 0] 29 (0, 0)) := World.alloc_heap_new _ _
  by_cases h600 : 600 < s.size
  · have t1 : (600 : Int) < (s.size : Int) := by omega
    have hx := HR.out
    unfold parseR at hx
    rw [if_pos h600] at hx
    have HX := Lib.hid (HR.out.symm.trans hx)
    clear hx
    go_enter Tryz.func27, Tryz.ntmps27
    have c0 : (w.alloc (.cells #[.slice none 0 0, .slice none 0 0, .slice none 0 0] 29)).cell? ⟨w.heap.size, 0, none⟩ = some (.slice none 0 0) := by rw [World.cell?_alloc_at _ _ _ _ rfl]; rfl
    have c1 : (w.alloc (.cells #[.slice none 0 0, .slice none 0 0, .slice none 0 0] 29)).cell? ⟨w.heap.size, 1, none⟩ = some (.slice none 0 0) := by rw [World.cell?_alloc_at _ _ _ _ rfl]; rfl
    have c2 : (w.alloc (.cells #[.slice none 0 0, .slice none 0 0, .slice none 0 0] 29)).cell? ⟨w.heap.size, 2, none⟩ = some (.slice none 0 0) := by rw [World.cell?_alloc_at _ _ _ _ rfl]; rfl
    go_wp2
    refine bodyPost_ret (v := .tuple #[.agg #[.slice none 0 0, .slice none 0 0, .slice none 0 0], .iface 80 (.int .i64 2)]) ?_ rfl ?_
    · simp [results, Tryz.f27, go_sem, c0, c1, c2]
    · refine ⟨.slice none 0 0, .slice none 0 0, .slice none 0 0, [], ?_, ?_, hb1⟩
      · rw [HX.out]; rfl
      · rw [HX.out]; exact mkOw0 _ _
  have t1 : decide ((600 : Int) < (s.size : Int)) = false := decide_eq_false (by omega)
  have hx := HR.out
  unfold parseR at hx
  rw [if_neg h600] at hx
  have HX := Lib.hid (HR.out.symm.trans hx)
  clear hx HR
  have hs2 : ((w.alloc (.cells #[.slice none 0 0, .slice none 0 0, .slice none 0 0] 29)).alloc (.cells #[.slice none 0 0, .slice none 0 0, .slice none 0 0] 29)).heap.size = w.heap.size + 1 + 1 := by simp
  have hb2 : Below w.heap.size w ((w.alloc (.cells #[.slice none 0 0, .slice none 0 0, .slice none 0 0] 29)).alloc (.cells #[.slice none 0 0, .slice none 0 0, .slice none 0 0] 29)) := hb1.alloc hb1.size _
  have k1 : ((w.alloc (.cells #[.slice none 0 0, .slice none 0 0, .slice none 0 0] 29)).alloc (.cells #[.slice none 0 0, .slice none 0 0, .slice none 0 0] 29)).heap[w.heap.size]? = some (.cells #[.slice none 0 0, .slice none 0 0, .slice none 0 0] 29 (0, 0)) := (Below.heap_alloc _ _ _ (by simp)).trans k0
  have k2 : ((w.alloc (.cells #[.slice none 0 0, .slice none 0 0, .slice none 0 0] 29)).alloc (.cells #[.slice none 0 0, .slice none 0 0, .slice none 0 0] 29)).heap[w.heap.size + 1]? = some (.cells #[.slice none 0 0, .slice none 0 0, .slice none 0 0] 29 (0, 0)) := by
    have := World.alloc_heap_new (w.alloc (.cells #[.slice none 0 0, .slice none 0 0, .slice none 0 0] 29)) (.cells #[.slice none 0 0, .slice none 0 0, .slice none 0 0] 29)
    rwa [World.size_alloc] at this
  have HB2 := Lib.hid hb2
  have HK1 := Lib.hid k1
  have HK2 := Lib.hid k2
  have HS2 := Lib.hid hs2
  have HM2 := Lib.hid (HM.out.below hb2)
  clear hb1 k0 hb2 k1 k2 hs2
  go_enter Tryz.func27, Tryz.ntmps27
  go_wp2_with fail
  generalize (w.alloc (.cells #[.slice none 0 0, .slice none 0 0, .slice none 0 0] 29)).alloc (.cells #[.slice none 0 0, .slice none 0 0, .slice none 0 0] 29) = w2 at *
  refine (splitN_any s w2 (by omega) HM2.out).mono ?_
  rintro e w3 ⟨rfl, hrd3, hb3⟩
  rw [HS2.out]
  rw [HS2.out] at hrd3
  have hg3 : w.heap.size + 1 + 1 < w3.heap.size := (hrd3.2.2.2 (List.length_pos_iff.2 (lines_ne s))).elim fun b hb => hb.elim fun off h => by obtain ⟨e, hlt, _⟩ := h; injection e with e; injection e with e; omega
  have HB3 := Lib.hid (HB2.out.trans (hb3.mono HB2.out.size))
  have k13 : w3.heap[w.heap.size]? = some (.cells #[.slice none 0 0, .slice none 0 0, .slice none 0 0] 29 (0, 0)) := (hb3.block _ (by rw [HS2.out]; omega)).trans HK1.out
  have k23 : w3.heap[w.heap.size + 1]? = some (.cells #[.slice none 0 0, .slice none 0 0, .slice none 0 0] 29 (0, 0)) := (hb3.block _ (by rw [HS2.out]; omega)).trans HK2.out
  have hmk : MkIn w3 w3.heap.size (w.heap.size + 1) mk0 := ⟨.slice none 0 0, .slice none 0 0, .slice none 0 0, [], k23, World.ownsRow_nil _ _ _ _, World.ownsRow_nil _ _ _ _, rfl, fun i x u hx => by simp at hx, World.ownsRow_nil _ _ _ _, List.pairwise_singleton _ _⟩
  have hGB : GB (w.heap.size + 1) w3.heap.size := by
    obtain ⟨q, hq⟩ := HM.out
    have := World.block_lt_of_cell? _ _ hq
    have h2 : 0 < w.heap.size := this
    exact ⟨by omega, by omega⟩
  have HM3 := Lib.hid (HM2.out.below hb3)
  have HRD := Lib.hid hrd3
  have HMK := Lib.hid hmk
  have HGB := Lib.hid hGB
  have HK13 := Lib.hid k13
  have hll := lines_len s
  have HLS := Lib.hid (fun x (hx : x ∈ lines s) => lines_size hx)
  clear hrd3 hb3 k13 k23 hmk hGB HM2 HK1 HK2 HB2 HS2 HM
  generalize hn : (lines s).length = n at *
  have HN := Lib.hid hn
  clear hn
  generalize hBB : w3.heap.size = B at *
  have HBB := Lib.hid hBB
  clear hBB
  go_wp2
  go_loopw [17] (fun i wr => PaRel s B (w.heap.size + 1) w.heap.size w3 i wr) (fun i _ => n - (intOf i).toNat)
  case atStart => exact ⟨0, mk0, Nat.zero_le _, rfl, rfl, sane0, HMK.out, Fr.refl _ _ _⟩
  case round =>
    obtain ⟨k, m, hk, rfl, hls, hsn, hmk, hfr⟩ := hrel.ex
    rw [HN.out] at hk
    have hB4 : B ≤ wr.heap.size := by have := hfr.size; have h2 := HBB.out; omega
    have HLN := Lib.hid hls
    have HSN := Lib.hid hsn
    have HMI := Lib.hid hmk
    have HFR := Lib.hid hfr
    have HMX := Lib.hid (HM3.out.fr hfr HGB.out)
    have HRW := Lib.hid (hfr.rdS (by rw [HBB.out]; exact HRD.out) (by have := HBB.out; omega) (by omega))
    clear hrel hls hsn hmk hfr
    by_cases hlt : k < n
    · obtain ⟨x, hx⟩ : ∃ x, (lines s)[k]? = some x := ⟨_, List.getElem?_eq_getElem (by rw [HN.out]; exact hlt)⟩
      obtain ⟨b', off, e1, _, hcx⟩ := HRW.out.at_ hx
      injection e1 with e1
      injection e1 with e1 e2
      subst e1
      subst e2
      have hkz : (k : Int) < (n : Int) := by omega
      have hxs : x.size ≤ 600 := by have := HLS.out x (List.mem_of_getElem? hx); omega
      have HXK := Lib.hid hx
      clear hx
      have hcx' : wr.cell? ⟨w.heap.size + 1 + 1, k, none⟩ = some (.string x) := by simpa using hcx
      clear hcx
      go_wp2_with fail
      refine (addLine_any B (w.heap.size + 1) m x wr HMI.out hB4 HGB.out HMX.out (HSN.out.mono (by omega)) hxs).mono ?_
      rintro e w5 ⟨rfl, hm5, hf5⟩
      have HF5 := Lib.hid (HFR.out.trans hf5)
      have HM5 := Lib.hid hm5
      have HSN5 := Lib.hid (HSN.out.line x hxs)
      have hln := HLN.out
      rw [drop_of HXK.out, linesR] at hln
      have HL5 := Lib.hid hln
      clear hf5 hm5 hln
      revert HM5 HSN5 HL5
      generalize lineR m x = lr
      obtain ⟨er, m2⟩ := lr
      intro HM5 HSN5 HL5
      dsimp only at HM5 HSN5 HL5
      by_cases h0 : er = 0
      · subst h0
        have e0 : errV ((((0 : Nat), m2) : Nat × Mk).1 : Int) = .nilIface := rfl
        rw [e0]
        clear e0
        go_wp2
        go_roundw
        case rel =>
          have hln := HL5.out
          rw [if_pos (by trivial)] at hln
          exact ⟨k + 1, m2, by rw [HN.out]; omega, by go_num, hln, HSN5.out, HM5.out, HF5.out⟩
        case measure => simp [intOf]; omega
      · have hln := HL5.out
        rw [if_neg h0] at hln
        have hx := HX.out
        rw [hln, if_pos h0] at hx
        have HX5 := Lib.hid hx
        clear hln hx
        rw [errV_pos (k := (((er, m2) : Nat × Mk).1 : Int)) (by show (er : Int) ≠ 0; omega)]
        have k15 : w5.heap[w.heap.size]? = some (.cells #[.slice none 0 0, .slice none 0 0, .slice none 0 0] 29 (0, 0)) := (HF5.out.block _ (by have := HBB.out; omega) (by omega)).trans HK13.out
        have c0 : w5.cell? ⟨w.heap.size, 0, none⟩ = some (.slice none 0 0) := by simp [World.cell?, k15]
        have c1 : w5.cell? ⟨w.heap.size, 1, none⟩ = some (.slice none 0 0) := by simp [World.cell?, k15]
        have c2 : w5.cell? ⟨w.heap.size, 2, none⟩ = some (.slice none 0 0) := by simp [World.cell?, k15]
        have f0 : w5.frozen? ⟨w.heap.size, 0, none⟩ = false := by simp [World.frozen?, k15]
        have f1 : w5.frozen? ⟨w.heap.size, 1, none⟩ = false := by simp [World.frozen?, k15]
        have f2 : w5.frozen? ⟨w.heap.size, 2, none⟩ = false := by simp [World.frozen?, k15]
        obtain ⟨hs3, hg3'⟩ := set3 k15 (.slice none 0 0) (.slice none 0 0) (.slice none 0 0)
        have hbl := (HF5.out.to_below HB3.out (by have := HBB.out; have := HB3.out.size; omega) (by omega)).grown hg3' (by have := HF5.out.size; have := HBB.out; omega) (fun j hj => by injection hj with hj; omega)
        have HBL := Lib.hid hbl
        have HS3 := Lib.hid hs3
        clear hs3 hg3' hbl k15
        go_wp2
        generalize ((w5.setCell ⟨w.heap.size, 0, none⟩ (.slice none 0 0)).setCell ⟨w.heap.size, 1, none⟩ (.slice none 0 0)).setCell ⟨w.heap.size, 2, none⟩ (.slice none 0 0) = w6 at *
        have hs3 := HS3.out
        have d0 : w6.cell? ⟨w.heap.size, 0, none⟩ = some (.slice none 0 0) := by simp [World.cell?, hs3]
        have d1 : w6.cell? ⟨w.heap.size, 1, none⟩ = some (.slice none 0 0) := by simp [World.cell?, hs3]
        have d2 : w6.cell? ⟨w.heap.size, 2, none⟩ = some (.slice none 0 0) := by simp [World.cell?, hs3]
        refine bodyPost_ret (v := .tuple #[.agg #[.slice none 0 0, .slice none 0 0, .slice none 0 0], .iface 80 (.int .i64 er)]) ?_ rfl ?_
        · simp [results, Tryz.f27, go_sem, d0, d1, d2]
        · refine ⟨.slice none 0 0, .slice none 0 0, .slice none 0 0, [], ?_, ?_, HBL.out⟩
          · rw [HX5.out, errV_pos (k := (((er, mk0) : Nat × Mk).1 : Int)) (by show (er : Int) ≠ 0; omega)]
          · rw [HX5.out]; exact mkOw0 _ _
    · obtain rfl : k = n := by omega
      have hln := HLN.out
      rw [List.drop_of_length_le (by rw [HN.out]; omega)] at hln
      have hln' : linesR mk0 (lines s) = (0, m) := hln
      have hx := HX.out
      rw [hln', if_neg (by simp)] at hx
      have HX5 := Lib.hid hx
      clear hln hln' hx
      obtain ⟨vv, vr, vp, R, hmo⟩ := HMI.out
      have c0 := hmo.cell.1
      have c1 := hmo.cell.2.1
      have c2 := hmo.cell.2.2
      obtain ⟨Av, cv, rfl⟩ := own_slice hmo.vars
      obtain ⟨Ar, cr, rfl⟩ := own_slice hmo.rules
      obtain ⟨Ap, cp, rfl⟩ := own_slice hmo.phony
      have HMO := Lib.hid hmo
      clear hmo
      generalize hnv : m.vars.length = nv at *
      generalize hnr : R.length = nr at *
      generalize hnp : m.phony.length = np at *
      go_wp2_with fail
      refine (check_any m _ _ _ R wr HMO.out.rd (by have := HSN.out.phony; omega) (by have := HSN.out.rules; omega) HSN.out.names (fun u hu => ⟨by have := HSN.out.cmds u hu; omega, by have := HSN.out.cmds u hu; omega, HSN.out.words u hu⟩)).mono ?_
      rintro e w5 ⟨rfl, hb5⟩
      have HMO5 := Lib.hid (HMO.out.below hb5)
      have HF5 := Lib.hid (HFR.out.trans (Fr.of_below (g := w.heap.size + 1) hb5 hB4))
      have k15 : w5.heap[w.heap.size]? = some (.cells #[.slice none 0 0, .slice none 0 0, .slice none 0 0] 29 (0, 0)) := (HF5.out.block _ (by have := HBB.out; omega) (by omega)).trans HK13.out
      have p0 := HMO5.out.cell.1
      have p1 := HMO5.out.cell.2.1
      have p2 := HMO5.out.cell.2.2
      clear hb5 c0 c1 c2
      have c0 : w5.cell? ⟨w.heap.size, 0, none⟩ = some (.slice none 0 0) := by simp [World.cell?, k15]
      have c1 : w5.cell? ⟨w.heap.size, 1, none⟩ = some (.slice none 0 0) := by simp [World.cell?, k15]
      have c2 : w5.cell? ⟨w.heap.size, 2, none⟩ = some (.slice none 0 0) := by simp [World.cell?, k15]
      have f0 : w5.frozen? ⟨w.heap.size, 0, none⟩ = false := by simp [World.frozen?, k15]
      have f1 : w5.frozen? ⟨w.heap.size, 1, none⟩ = false := by simp [World.frozen?, k15]
      have f2 : w5.frozen? ⟨w.heap.size, 2, none⟩ = false := by simp [World.frozen?, k15]
      have hb0 := HF5.out.to_below HB3.out (by have := HBB.out; have := HB3.out.size; omega) (by omega)
      have hsz5 : w.heap.size ≤ w5.heap.size := hb0.size
      cases hck : checkR m with
      | false =>
        have hx := HX5.out
        rw [if_neg (by rw [hck]; simp)] at hx
        have HX6 := Lib.hid hx
        clear hx
        have e0 : errV (ckN false : Int) = .iface 80 (.int .i64 3) := rfl
        rw [e0]
        obtain ⟨hs3, hg3'⟩ := set3 k15 (.slice none 0 0) (.slice none 0 0) (.slice none 0 0)
        have HBL := Lib.hid (hb0.grown hg3' hsz5 (fun j hj => by injection hj with hj; omega))
        have HS3 := Lib.hid hs3
        clear hs3 hg3' k15 hb0
        go_wp2
        generalize ((w5.setCell ⟨w.heap.size, 0, none⟩ (.slice none 0 0)).setCell ⟨w.heap.size, 1, none⟩ (.slice none 0 0)).setCell ⟨w.heap.size, 2, none⟩ (.slice none 0 0) = w6 at *
        have hs3 := HS3.out
        have d0 : w6.cell? ⟨w.heap.size, 0, none⟩ = some (.slice none 0 0) := by simp [World.cell?, hs3]
        have d1 : w6.cell? ⟨w.heap.size, 1, none⟩ = some (.slice none 0 0) := by simp [World.cell?, hs3]
        have d2 : w6.cell? ⟨w.heap.size, 2, none⟩ = some (.slice none 0 0) := by simp [World.cell?, hs3]
        refine bodyPost_ret (v := .tuple #[.agg #[.slice none 0 0, .slice none 0 0, .slice none 0 0], .iface 80 (.int .i64 3)]) ?_ rfl ?_
        · simp [results, Tryz.f27, go_sem, d0, d1, d2]
        · refine ⟨.slice none 0 0, .slice none 0 0, .slice none 0 0, [], ?_, ?_, HBL.out⟩
          · rw [HX6.out]; rfl
          · rw [HX6.out]; exact mkOw0 _ _
      | true =>
        have hx := HX5.out
        rw [if_pos hck] at hx
        have HX6 := Lib.hid hx
        clear hx
        have e0 : errV (ckN true : Int) = .nilIface := rfl
        rw [e0]
        obtain ⟨hs3, hg3'⟩ := set3 k15 (.slice Av nv cv) (.slice Ar nr cr) (.slice Ap np cp)
        have HBL := Lib.hid (hb0.grown hg3' hsz5 (fun j hj => by injection hj with hj; omega))
        have HS3 := Lib.hid hs3
        have hk6 := HMO5.out.kept hg3' (by intro e; injection e with e; omega) (.inr (Ne.symm (row_not_blk HMO5.out.vars k15 (by decide)))) (.inr (Ne.symm (row_not_blk HMO5.out.rules k15 (by decide)))) (fun v hv => by obtain ⟨l, hl⟩ := HMO5.out.str hv; exact .inr (Ne.symm (row_not_blk hl k15 (by decide))))
        have HK6 := Lib.hid (hk6.ow (show w.heap.size ≤ B by have := HBB.out; have := HB3.out.size; omega))
        clear hs3 hg3' k15 hb0 hk6
        go_wp2
        generalize ((w5.setCell ⟨w.heap.size, 0, none⟩ (.slice Av nv cv)).setCell ⟨w.heap.size, 1, none⟩ (.slice Ar nr cr)).setCell ⟨w.heap.size, 2, none⟩ (.slice Ap np cp) = w6 at *
        have hs3 := HS3.out
        have d0 : w6.cell? ⟨w.heap.size, 0, none⟩ = some (.slice Av nv cv) := by simp [World.cell?, hs3]
        have d1 : w6.cell? ⟨w.heap.size, 1, none⟩ = some (.slice Ar nr cr) := by simp [World.cell?, hs3]
        have d2 : w6.cell? ⟨w.heap.size, 2, none⟩ = some (.slice Ap np cp) := by simp [World.cell?, hs3]
        refine bodyPost_ret (v := .tuple #[.agg #[.slice Av nv cv, .slice Ar nr cr, .slice Ap np cp], .nilIface]) ?_ rfl ?_
        · simp [results, Tryz.f27, go_sem, d0, d1, d2]
        · refine ⟨.slice Av nv cv, .slice Ar nr cr, .slice Ap np cp, R, ?_, ?_, HBL.out⟩
          · rw [HX6.out]; rfl
          · rw [HX6.out]; exact HK6.out
end Go.Proofs.YtlkpbpecgdphaaaGreatDoor
