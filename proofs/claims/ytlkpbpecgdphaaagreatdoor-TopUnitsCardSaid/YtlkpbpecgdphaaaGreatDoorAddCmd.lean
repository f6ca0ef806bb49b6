/-
  WALK: makefile.addCommand: what it makes of the description in memory.
-/
import Derived.Test.YtlkpbpecgdphaaaGreatDoorMk
namespace Go.Proofs.YtlkpbpecgdphaaaGreatDoor
open Go.RowKit

/-- internal/bytealg.MaxLen lies below B and is not the description's block. -/
def GB (g B : Nat) : Prop := 0 < B ∧ 0 ≠ g
theorem MaxOk.fr {g B : Nat} {w w' : World} (h : MaxOk w) (hf : Fr g B w w') (hG : GB g B) : MaxOk w' := by
  obtain ⟨m, hm⟩ := h
  exact ⟨m, (hf.cell (p := ⟨0, 0, none⟩) hG.1 hG.2).trans hm⟩
def AdPost (B g : Nat) (r : Nat × Mk) (w : World) (e : Ending) (w' : World) : Prop := e = .returned (errV r.1) ∧ MkIn w' B g r.2 ∧ Fr g B w w'
theorem errK {r : Nat × Mk} (c : Nat) (hc : c ≠ 0) (h : r.1 = c) : errV r.1 = .iface 80 (.int .i64 c) := by rw [h, errV_pos (by show (c : Int) ≠ 0; omega)]
theorem err0 {r : Nat × Mk} (h : r.1 = 0) : errV r.1 = .nilIface := by rw [h]; rfl
theorem own_slice {w : World} {B : Nat} {e : TypeId} {s : Nat} {v : Value} {n : Nat} {xs : List Value} (h : w.ownsRow B e s v n xs) : ∃ A c, v = .slice A n c := by
  rcases h.2 with ⟨rfl, rfl⟩ | ⟨g, cap, cur, rfl, _⟩
  · exact ⟨none, 0, rfl⟩
  · exact ⟨_, cap, rfl⟩
theorem cells_new (w : World) (cs : Array Value) (t : TypeId) : ∀ j u, cs.toList[j]? = some u → (w.alloc (.cells cs t)).cell? ((⟨w.heap.size, 0, none⟩ : Addr).add j) = some u := by
  intro j u hj
  rw [Go.WideShapes.add_plain, World.cell?_alloc_at _ _ _ _ rfl]
  simpa using hj
theorem var_info : (Tryz.prog.info? 117).map (fun i => (i.zero, i.size, i.bytes)) = some (some (.agg #[.string ByteArray.empty, .string ByteArray.empty]), 2, 32) := by kernel_rfl
theorem var_parts : ∃ i, Tryz.prog.info? 117 = some i ∧ i.zero = some (.agg #[.string ByteArray.empty, .string ByteArray.empty]) ∧ i.size = 2 ∧ i.bytes = 32 := by
  have h := var_info
  rw [Option.map_eq_some_iff] at h
  obtain ⟨i, hi, e⟩ := h
  simp only [Prod.mk.injEq] at e
  exact ⟨i, hi, e.1, e.2.1, e.2.2⟩
theorem rule_info : (Tryz.prog.info? 115).map (fun i => (i.zero, i.size, i.bytes)) = some (some (.agg #[.slice none 0 0, .slice none 0 0, .slice none 0 0]), 3, 72) := by kernel_rfl
theorem rule_parts : ∃ i, Tryz.prog.info? 115 = some i ∧ i.zero = some (.agg #[.slice none 0 0, .slice none 0 0, .slice none 0 0]) ∧ i.size = 3 ∧ i.bytes = 72 := by
  have h := rule_info
  rw [Option.map_eq_some_iff] at h
  obtain ⟨i, hi, e⟩ := h
  simp only [Prod.mk.injEq] at e
  exact ⟨i, hi, e.1, e.2.1, e.2.2⟩

set_option maxHeartbeats 400000 in
theorem litePrefix_any (s p : ByteArray) (w : World) (_hs : s.size ≤ 1000000) :
    Calls Tryz.prog 120 #[.string s, .string p] w fun e w' => e = .returned (.tuple #[.string (if Lib.hasPrefix s.data.toList p.data.toList = true then s.extract p.size s.size else s), .bool (Lib.hasPrefix s.data.toList p.data.toList)]) ∧ w = w' := by
  obtain ⟨t, ht⟩ : ∃ t, t = if Lib.hasPrefix s.data.toList p.data.toList = true then s.extract p.size s.size else s := ⟨_, rfl⟩
  rw [← ht]
  have HT := Lib.hid ht
  clear ht
  obtain ⟨b, hb⟩ : ∃ b, b = Lib.hasPrefix s.data.toList p.data.toList := ⟨_, rfl⟩
  rw [← hb] at HT ⊢
  have HB := Lib.hid hb
  clear hb
  go_enter Tryz.func120, Tryz.ntmps120
  go_wp2_with fail
  refine (Tryz.stringslite_HasPrefix s p w).mono ?_
  rintro e w' ⟨rfl, rfl⟩
  rw [← HB.out]
  cases b with
  | false =>
    go_wp2
    go_ret2
    have ht := HT.out
    rw [if_neg (by simp)] at ht
    exact ⟨by rw [ht]; rfl, rfl⟩
  | true =>
    have hl : p.size ≤ s.size := by
      have hq := HB.out.symm
      rw [Lib.hasPrefix, List.isPrefixOf_iff_prefix] at hq
      have := hq.length_le
      simpa using this
    have hl' : (p.size : Int) ≤ (s.size : Int) := by omega
    go_wp2
    go_ret2
    have ht := HT.out
    rw [if_pos (by trivial)] at ht
    exact ⟨by rw [ht]; rfl, rfl⟩
set_option maxHeartbeats 400000 in
theorem cutPrefix_any (s p : ByteArray) (w : World) (hs : s.size ≤ 1000000) :
    Calls Tryz.prog 79 #[.string s, .string p] w fun e w' => e = .returned (.tuple #[.string (if Lib.hasPrefix s.data.toList p.data.toList = true then s.extract p.size s.size else s), .bool (Lib.hasPrefix s.data.toList p.data.toList)]) ∧ w = w' := by
  obtain ⟨t, ht⟩ : ∃ t, t = if Lib.hasPrefix s.data.toList p.data.toList = true then s.extract p.size s.size else s := ⟨_, rfl⟩
  rw [← ht]
  have HT := Lib.hid ht
  clear ht
  go_enter Tryz.func79, Tryz.ntmps79
  go_wp2_with fail
  refine (litePrefix_any s p w hs).mono ?_
  rintro e w' ⟨rfl, rfl⟩
  rw [← HT.out]
  go_wp2
  go_ret2
  exact ⟨rfl, rfl⟩

set_option maxHeartbeats 1000000 in
set_option maxRecDepth 100000 in
theorem addVar_any (B g : Nat) (m : Mk) (n t : ByteArray) (w : World) (h : MkIn w B g m) (hB : B ≤ w.heap.size) (hv : m.vars.length ≤ 1000000) (hn : n.size ≤ 1000000) :
    Calls Tryz.prog 83 #[.pointer (some ⟨g, 0, none⟩), .string n, .string t] w (AdPost B g (varR m n t) w) := by
  obtain ⟨i, hi, hz, hsz, hby⟩ := var_parts
  have HI := Lib.hid hi
  have HZ := Lib.hid hz
  have HS := Lib.hid hsz
  have HBY := Lib.hid hby
  clear hi hz hsz hby
  obtain ⟨r, hr⟩ : ∃ r, r = varR m n t := ⟨_, rfl⟩
  rw [← hr]
  unfold varR at hr
  have HR := Lib.hid hr
  have H0 := Lib.hid h
  obtain ⟨vv, vr, vp, R, hm⟩ := h
  obtain ⟨A, c, rfl, hrd⟩ := hm.rdVars
  have hc0 := hm.cell.1
  have hf0 := hm.frozen 0
  have HM := Lib.hid hm
  generalize hk : m.vars.length = k at *
  have HK := Lib.hid hk
  clear hr hm hrd hk
  go_enter Tryz.func83, Tryz.ntmps83
  go_wp2_with fail
  refine (var_any n w (by omega)).mono ?_
  rintro e w' ⟨rfl, rfl⟩
  cases hvo : varOk n with
  | false =>
    go_wp2
    go_ret
    have hx := HR.out
    rw [if_pos hvo] at hx
    exact ⟨by rw [errK 3 (by decide) (by rw [hx])]; rfl, by rw [hx]; exact H0.out, Fr.refl _ _ _⟩
  | true =>
    have hx0 := HR.out
    rw [if_neg (by rw [hvo]; simp)] at hx0
    have HX := Lib.hid hx0
    clear hx0
    by_cases h6 : 6 ≤ k
    · have t1 : (6 : Int) ≤ (k : Int) := by omega
      go_wp2
      go_ret
      have hx := HX.out
      rw [if_pos h6] at hx
      exact ⟨by rw [errK 2 (by decide) (by rw [hx])]; rfl, by rw [hx]; exact H0.out, Fr.refl _ _ _⟩
    · have t1 : decide ((6 : Int) ≤ (k : Int)) = false := decide_eq_false (by omega)
      have hown := HM.out.vars
      rw [HK.out] at hown
      have HO := Lib.hid (hown.alloc (.cells #[.string n, .string t] 117))
      have HC := Lib.hid (cells_new w #[.string n, .string t] 117)
      clear hown
      go_wp2_with (at_builtin; refine wpList_append_own_at _ rfl (.tmp 22) (.tmp 26) _ rfl B 117 i _ 2 32 Tryz.underlying25 HI.out HZ.out HS.out HBY.out rfl (by decide) _ _ _ rfl HO.out ⟨w.heap.size, 0, none⟩ 1 1 [.string n, .string t] rfl rfl HC.out (by simp [Value.oneCell']) ?_ ?_ ?_ ?_)
      · unfold maxLen; omega
      · omega
      · simp; omega
      intro v2 w2 hown2 hg2 _ _
      have hba : Below w.heap.size w (w.alloc (.cells #[.string n, .string t] 117)) := (Below.refl _ _).alloc (Nat.le_refl _) _
      have hm1 := HM.out.below hba
      have hb2 : w2.heap[g]? = some (.cells #[.slice A k c, vr, vp] 29 (0, 0)) := (hg2.block g hm1.lt (row_not_blk hm1.vars hm1.blk (by decide))).trans hm1.blk
      have q1 : w2.cell? ⟨g, 0, none⟩ = some (.slice A k c) := by simp [World.cell?, hb2]
      have q2 : w2.frozen? ⟨g, 0, none⟩ = false := by simp [World.frozen?, hb2]
      have hfr := (Fr.of_below (g := g) hba hB).trans (Fr.of_grown hg2 (by have := hba.size; omega) (fun j hj => .inl (hm1.vars.lt j hj).1))
      have hmv := hm1.moreVar (n, t) (by rw [HK.out]; exact hown2) hg2
      obtain ⟨A2, c2, rfl⟩ := own_slice hown2
      have HF := Lib.hid (hfr.setCell 0 (.slice A2 (k + 1) c2))
      have HV := Lib.hid hmv
      clear hba hm1 hb2 hfr hmv hown2 hg2 HO HC
      go_wp2
      go_ret
      have hx := HX.out
      rw [if_neg h6] at hx
      exact ⟨by rw [err0 (by rw [hx])]; rfl, by rw [hx]; exact ⟨_, _, _, _, HV.out⟩, HF.out⟩

set_option maxHeartbeats 1000000 in
set_option maxRecDepth 100000 in
theorem addPhony_any (B g : Nat) (m : Mk) (n : ByteArray) (w : World) (h : MkIn w B g m) (hB : B ≤ w.heap.size) (hv : m.phony.length ≤ 900000) (hn : n.size ≤ 1000000) :
    Calls Tryz.prog 81 #[.pointer (some ⟨g, 0, none⟩), .string n] w (AdPost B g (phonyR m n) w) := by
  obtain ⟨i, hi, hz, hsz, hby⟩ := text_parts
  have HI := Lib.hid hi
  have HZ := Lib.hid hz
  have HS := Lib.hid hsz
  have HBY := Lib.hid hby
  clear hi hz hsz hby
  obtain ⟨r, hr⟩ : ∃ r, r = phonyR m n := ⟨_, rfl⟩
  rw [← hr]
  unfold phonyR at hr
  have HR := Lib.hid hr
  have H0 := Lib.hid h
  obtain ⟨vv, vr, vp, R, hm⟩ := h
  obtain ⟨A, c, rfl, hrd⟩ := hm.rdPhony
  have hc0 := hm.cell.2.2
  have HM := Lib.hid hm
  have HRD := Lib.hid hrd
  generalize hk : m.phony.length = k at *
  have HK := Lib.hid hk
  clear hr hm hrd hk
  go_enter Tryz.func81, Tryz.ntmps81
  go_wp2_with fail
  refine (name_any n w (by omega)).mono ?_
  rintro e w' ⟨rfl, rfl⟩
  cases hno : nameB n with
  | false =>
    go_wp2
    go_ret
    have hx := HR.out
    rw [if_pos (.inl hno)] at hx
    exact ⟨by rw [errK 3 (by decide) (by rw [hx])]; rfl, by rw [hx]; exact H0.out, Fr.refl _ _ _⟩
  | true =>
    go_wp2_with fail
    refine (contains_any A k c m.phony n w HRD.out (by omega)).mono ?_
    rintro e w' ⟨rfl, rfl⟩
    cases hin : inT m.phony n with
    | true =>
      go_wp2
      go_ret
      have hx := HR.out
      rw [if_pos (.inr hin)] at hx
      exact ⟨by rw [errK 3 (by decide) (by rw [hx])]; rfl, by rw [hx]; exact H0.out, Fr.refl _ _ _⟩
    | false =>
      have hown := HM.out.phony
      unfold Own1 at hown
      rw [HK.out] at hown
      have HO := Lib.hid (hown.alloc (.cells #[.string n] 9))
      have HC := Lib.hid (cells_new w #[.string n] 9)
      clear hown
      go_wp2_with (at_builtin; refine wpList_append_own_at _ rfl (.tmp 21) (.tmp 23) _ rfl B 9 i _ 1 16 Tryz.underlying27 HI.out HZ.out HS.out HBY.out rfl (by decide) _ _ _ rfl HO.out ⟨w.heap.size, 0, none⟩ 1 1 [.string n] rfl rfl HC.out (by simp [Value.oneCell']) ?_ ?_ ?_ ?_)
      · unfold maxLen; omega
      · omega
      · simp; omega
      intro v2 w2 hown2 hg2 _ hloc
      have hba : Below w.heap.size w (w.alloc (.cells #[.string n] 9)) := (Below.refl _ _).alloc (Nat.le_refl _) _
      have hm1 := HM.out.below hba
      have hb2 : w2.heap[g]? = some (.cells #[vv, vr, .slice A k c] 29 (0, 0)) := (hg2.block g hm1.lt (row_not_blk hm1.phony hm1.blk (by decide))).trans hm1.blk
      have q1 : w2.cell? ⟨g, 2, none⟩ = some (.slice A k c) := by simp [World.cell?, hb2]
      have q2 : w2.frozen? ⟨g, 2, none⟩ = false := by simp [World.frozen?, hb2]
      have hfr := (Fr.of_below (g := g) hba hB).trans (Fr.of_grown hg2 (by have := hba.size; omega) (fun j hj => .inl (hm1.phony.lt j hj).1))
      have hmv := hm1.morePhony n (by rw [HK.out]; exact hown2) hg2 (by rw [World.size_alloc]; exact hloc)
      obtain ⟨A2, c2, rfl⟩ := own_slice hown2
      have HF := Lib.hid (hfr.setCell 2 (.slice A2 (k + 1) c2))
      have HV := Lib.hid hmv
      clear hba hm1 hb2 hfr hmv hown2 hg2 HO HC hloc
      go_wp2
      go_ret
      have hx := HR.out
      rw [if_neg (by rw [hno, hin]; simp)] at hx
      exact ⟨by rw [err0 (by rw [hx])]; rfl, by rw [hx]; exact ⟨_, _, _, _, HV.out⟩, HF.out⟩
end Go.Proofs.YtlkpbpecgdphaaaGreatDoor
namespace Go.Proofs.YtlkpbpecgdphaaaGreatDoor
open Go.RowKit

theorem snoc_of {α : Type} {l : List α} {k : Nat} (h : l.length = k + 1) : ∃ i x, l = i ++ [x] ∧ i.length = k := by
  have hne : l ≠ [] := by intro e; rw [e] at h; simp at h
  exact ⟨l.dropLast, l.getLast hne, (List.dropLast_concat_getLast hne).symm, by simp; omega⟩

set_option maxHeartbeats 2000000 in
set_option maxRecDepth 100000 in
theorem addCommand_any (B g : Nat) (m : Mk) (s : ByteArray) (w : World) (h : MkIn w B g m) (hB : B ≤ w.heap.size) (hG : GB g B) (hmx : MaxOk w) (hsn : Sane m 100000) (hs : s.size ≤ 1000) :
    Calls Tryz.prog 80 #[.pointer (some ⟨g, 0, none⟩), .string s] w (AdPost B g (cmdR m s) w) := by
  obtain ⟨i, hi, hz, hsz, hby⟩ := text_parts
  have HI := Lib.hid hi
  have HZ := Lib.hid hz
  have HS := Lib.hid hsz
  have HBY := Lib.hid hby
  clear hi hz hsz hby
  obtain ⟨r, hr⟩ : ∃ r, r = cmdR m s := ⟨_, rfl⟩
  rw [← hr]
  unfold cmdR at hr
  have HR := Lib.hid hr
  have H0 := Lib.hid h
  have HMX := Lib.hid hmx
  have HSN := Lib.hid hsn
  have HG := Lib.hid hG
  obtain ⟨vv, vr, vp, R, hm⟩ := h
  have hlr := hm.len
  have hnr : R.length ≤ 100000 := by rw [hlr]; exact hsn.rules
  obtain ⟨A, c, rfl, hrd⟩ := hm.rdVars
  obtain ⟨Ar, cr, rfl⟩ := own_slice hm.rules
  have hc0 := hm.cell.1
  have hc1 := hm.cell.2.1
  have HM := Lib.hid hm
  have HRD := Lib.hid hrd
  have HLR := Lib.hid hlr
  clear hr hm hrd hmx hsn hG hlr
  generalize hnv : m.vars.length = nv at *
  have hnv' : nv ≤ 100000 := by rw [← hnv]; exact HSN.out.vars
  have HNV := Lib.hid hnv
  clear hnv
  cases hk : R.length with
  | zero =>
    rw [hk] at hc1
    have hx := HR.out
    rw [if_pos (by rw [← HLR.out]; exact hk)] at hx
    have HX := Lib.hid hx
    clear hx
    go_enter Tryz.func80, Tryz.ntmps80
    go_wp2
    go_ret
    exact ⟨by rw [errK 4 (by decide) (by rw [HX.out])]; rfl, by rw [HX.out]; exact H0.out, Fr.refl _ _ _⟩
  | succ k =>
    rw [hk] at hc1
    obtain ⟨R0, x, hR, hR0⟩ := snoc_of hk
    obtain ⟨r0, u, hru, hr0⟩ := snoc_of (show m.rules.length = k + 1 by rw [← HLR.out]; exact hk)
    have hkb : k ≤ 100000 := by omega
    have hrow := HM.out.rules
    rw [hk] at hrow
    obtain ⟨gr, cap, cur, hvr, hbg, _⟩ : ∃ gr cap cur, Value.slice Ar (k + 1) cr = .slice (some ⟨gr, 0, none⟩) (k + 1) cap ∧ B ≤ gr ∧ w.heap[gr]? = some (.cells cur 115 (0, 0)) := by
      rcases hrow.2 with ⟨_, h0⟩ | ⟨gr, cap, cur, h1, h2, h3, _⟩
      · omega
      · exact ⟨gr, cap, cur, h1, h2, h3⟩
    simp only [Value.slice.injEq, true_and] at hvr
    obtain ⟨rfl, rfl⟩ := hvr
    have hrk : R[k]? = some x := by rw [hR, ← hR0]; simp
    have hruk : m.rules[k]? = some u := by rw [hru, ← hr0]; simp
    have HRK := Lib.hid hrk
    have HRUK := Lib.hid hruk
    clear hrk hruk
    have hu := HM.out.each k x u HRK.out HRUK.out
    obtain ⟨Ac, cc, hxc⟩ := own_slice hu.2.2
    have hcl : u.2.2.length ≤ 3 := (HSN.out.cmds u (by rw [hru]; simp)).2.2
    have hx0 := HR.out
    rw [if_neg (by rw [← HLR.out]; omega)] at hx0
    have HX := Lib.hid hx0
    clear hx0
    have HT := Lib.hid (fun v hv => Nat.le_trans (HSN.out.texts v hv) (by omega : 600 ≤ 1000))
    have HRR := Lib.hid hR
    have HRU := Lib.hid hru
    have HR0 := Lib.hid hR0
    have HXC := Lib.hid hxc
    clear hR hru hR0 hr0 hxc hrow HR
    have z2 : w.cell? ⟨gr, k * 3 + 2, none⟩ = some (.slice Ac u.2.2.length cc) := by
      have hrw := HM.out.rules
      rw [HRR.out] at hrw
      have h1 := hrw.cellAt (k * 3 + 2) (by rw [List.length_append, HR0.out]; simp; omega)
      rw [h1]
      have := (rcells_at (R := R0 ++ [x]) (i := k) (x := x) (by rw [← HR0.out]; simp)).2.2
      rw [this, HXC.out]
    have zf : w.frozen? ⟨gr, k * 3 + 2, none⟩ = false := by
      have hrw := HM.out.rules
      exact hrw.frozenAt _
    obtain ⟨ev, hev⟩ : ∃ ev, ev = expR m.vars 5 s.data.toList := ⟨_, rfl⟩
    rw [← hev] at HX
    have HEV := Lib.hid hev
    clear hev
    have hlen600 : ev.1 = 0 → ev.2.length ≤ 600 := by
      rw [HEV.out]
      intro h
      exact expL_len _ _ _ _ (Prod.ext h rfl)
    go_enter Tryz.func80, Tryz.ntmps80
    go_wp2_with fail
    refine (expText_any A nv c m.vars s w HRD.out HT.out (by omega) hs HMX.out).mono ?_
    rintro e w1 ⟨rfl, hb1⟩
    rw [← HEV.out]
    have hm1 := HM.out.below hb1
    have c1 := hm1.cell.2.1
    rw [hk] at c1
    have z3 : w1.cell? ⟨gr, k * 3 + 2, none⟩ = some (.slice Ac u.2.2.length cc) := (hb1.cell (p := ⟨gr, k * 3 + 2, none⟩) (World.block_lt_of_cell? _ _ z2)).trans z2
    have hB1 : B ≤ w1.heap.size := by have := hb1.size; omega
    have HM1 := Lib.hid hm1
    have HF1 := Lib.hid (Fr.of_below (g := g) hb1 hB)
    clear hb1 hm1 z2 zf hc0 hc1 HM HRD HMX
    obtain ⟨e, t⟩ := ev
    dsimp only at hlen600
    by_cases h0 : e = 0
    · subst h0
      have htl := hlen600 rfl
      have e0 : errV ((((0 : Nat), t) : Nat × Bs).1 : Int) = .nilIface := rfl
      rw [e0]
      clear e0 hlen600
      have hx := HX.out
      rw [if_neg (by simp)] at hx
      rw [HRU.out, lastCmds_snoc, ← HRU.out] at hx
      have HX2 := Lib.hid hx
      clear hx HX
      have htz : (ba t).size ≤ 600 := by rw [ba_size]; exact htl
      have hks : ((k : Int) + 1) - 1 = (k : Int) := by omega
      have hkl : (k : Int) < (k : Int) + 1 := by omega
      go_wp2_with fail
      have c1d : w1.drew.cell? ⟨g, 1, none⟩ = some (.slice (some ⟨gr, 0, none⟩) (k + 1) cr) := c1
      go_region
      have z4 : w1.drew.cell? ⟨gr, k * 3 + 2, none⟩ = some (.slice Ac u.2.2.length cc) := z3
      have hmd : MkOk w1.drew B g m (.slice A nv c) (.slice (some ⟨gr, 0, none⟩) R.length cr) vp R := ⟨HM1.out.blk, HM1.out.vars, HM1.out.rules, HM1.out.len, HM1.out.each, HM1.out.phony, HM1.out.apart⟩
      have hfd : Fr g B w w1.drew := ⟨HF1.out.os, HF1.out.tape, HF1.out.output, HF1.out.size, HF1.out.block⟩
      have hB2 : B ≤ w1.drew.heap.size := hB1
      have HM2 := Lib.hid hmd
      have HF2 := Lib.hid hfd
      clear hmd hfd HM1 HF1 z3 c1 c1d hB1
      generalize w1.drew = w2 at *
      by_cases h3 : 3 ≤ u.2.2.length
      · have t1 : (3 : Int) ≤ (u.2.2.length : Int) := by omega
        go_wp2
        go_ret
        have hx := HX2.out
        rw [if_pos (.inl h3)] at hx
        exact ⟨by rw [errK 2 (by decide) (by rw [hx])]; rfl, by rw [hx]; exact ⟨_, _, _, _, HM2.out⟩, HF2.out⟩
      have t1 : decide ((3 : Int) ≤ (u.2.2.length : Int)) = false := decide_eq_false (by omega)
      by_cases h28 : 28 < t.length
      · have t2 : (28 : Int) < ((ba t).size : Int) := by rw [ba_size]; omega
        go_wp2
        go_ret
        have hx := HX2.out
        rw [if_pos (.inr h28)] at hx
        exact ⟨by rw [errK 2 (by decide) (by rw [hx])]; rfl, by rw [hx]; exact ⟨_, _, _, _, HM2.out⟩, HF2.out⟩
      have t2 : decide ((28 : Int) < ((ba t).size : Int)) = false := decide_eq_false (by rw [ba_size]; omega)
      have hx := HX2.out
      rw [if_neg (by omega)] at hx
      have HX3 := Lib.hid hx
      clear hx HX2
      have hown : Own1 w2 B x.2.2 u.2.2 := (HM2.out.each k x u HRK.out HRUK.out).2.2
      rw [HXC.out] at hown
      have HO := Lib.hid (hown.alloc (.cells #[.string (ba t)] 9))
      have HC := Lib.hid (cells_new w2 #[.string (ba t)] 9)
      clear hown
      generalize hul : u.2.2.length = ul at *
      have HUL := Lib.hid hul
      clear hul
      have z5 : (w2.alloc (.cells #[.string (ba t)] 9)).cell? ⟨gr, k * 3 + 2, none⟩ = some (.slice Ac ul cc) := (World.cell?_alloc_old _ _ _ (Nat.ne_of_lt (World.block_lt_of_cell? _ _ z4))).trans z4
      go_wp2_with (at_builtin; refine wpList_append_own_at _ rfl (.tmp 54) (.tmp 56) _ rfl B 9 i _ 1 16 Tryz.underlying27 HI.out HZ.out HS.out HBY.out rfl (by decide) _ _ _ rfl HO.out ⟨w2.heap.size, 0, none⟩ 1 1 [.string (ba t)] rfl rfl HC.out (by simp [Value.oneCell']) ?_ ?_ ?_ ?_)
      · unfold maxLen; omega
      · omega
      · first | omega | (simp; omega)
      intro v3 w3 hown3 hg3 _ hloc
      have hba : Below w2.heap.size w2 (w2.alloc (.cells #[.string (ba t)] 9)) := (Below.refl _ _).alloc (Nat.le_refl _) _
      have hm3 := HM2.out.below hba
      have hrow3 := hm3.rules
      have hxr := (hm3.each k x u HRK.out HRUK.out).2.2
      rw [HXC.out] at hxr
      have hrw3 := hrow3.kept hg3 (rows_ne hrow3 hxr (by decide))
      have y1 : w3.cell? ⟨gr, k * 3 + 2, none⟩ = some (.slice Ac ul cc) := by
        have h1 := hrw3.cellAt (k * 3 + 2) (by omega)
        rw [h1, (rcells_at HRK.out).2.2, HXC.out]
      have y2 : w3.frozen? ⟨gr, k * 3 + 2, none⟩ = false := hrw3.frozenAt _
      have hxo : (Value.slice Ac ul cc).ownBlock = x.2.2.ownBlock := by rw [HXC.out]
      have hfr := (Fr.of_below (g := g) hba hB2).trans (Fr.of_grown hg3 (by have := hba.size; omega) (fun j hj => .inl (hxr.lt j hj).1))
      rw [hxo] at hg3 hloc
      rw [HRR.out] at hm3
      have hmv := hm3.moreCmd HRU.out (ba t) (cap := cr) (gr := gr) (by rw [List.length_append]; rfl) (by rw [HUL.out]; exact hown3) hg3 (by rw [World.size_alloc]; exact hloc)
      rw [HR0.out] at hmv
      obtain ⟨A3, c3, rfl⟩ := own_slice hown3
      have hgrg : B ≤ gr := hbg
      have hfr2 : Fr g B w (w3.setCell ⟨gr, k * 3 + 2, none⟩ (.slice A3 (ul + 1) c3)) := (HF2.out.trans hfr).trans ⟨rfl, rfl, rfl, by simp, fun j hj _ => Below.heap_setCell _ _ _ _ (by show j ≠ gr; omega)⟩
      have HF := Lib.hid hfr2
      have HV := Lib.hid hmv
      clear hba hm3 hrow3 hxr hrw3 hfr hfr2 hmv hown3 hg3 HO HC hloc hxo
      go_wp2
      go_ret
      exact ⟨by rw [err0 (by rw [HX3.out])]; rfl, by rw [HX3.out]; exact ⟨_, _, _, _, HV.out⟩, HF.out⟩
    · have hx := HX.out
      rw [if_pos (by exact h0)] at hx
      have HX2 := Lib.hid hx
      clear hx HX
      rw [errV_pos (k := (((e, t) : Nat × Bs).1 : Int)) (by show (e : Int) ≠ 0; omega)]
      go_wp2
      go_ret
      exact ⟨by rw [errK e h0 (by rw [HX2.out])]; rfl, by rw [HX2.out]; exact ⟨_, _, _, _, HM1.out⟩, HF1.out⟩
end Go.Proofs.YtlkpbpecgdphaaaGreatDoor
