/-
  WALKS: strings.CutPrefix, makefile.addVar, addPhony, addCommand: what each makes of the description in memory.
-/
import Derived.Test.YtpolnompiinanaaDoorMk
namespace Go.Proofs.YtpolnompiinanaaDoor
open Go.RowKit

/-- internal/bytealg.MaxLen lies below B and is not the description's block. -/
def GB (g B : Nat) : Prop := 1 < B ∧ 1 ≠ g
theorem MaxOk.fr {g B : Nat} {w w' : World} (h : MaxOk w) (hf : Fr g B w w') (hG : GB g B) : MaxOk w' := by
  obtain ⟨m, hm⟩ := h
  exact ⟨m, (hf.cell (p := ⟨1, 0, none⟩) hG.1 hG.2).trans hm⟩
def AdPost (B g : Nat) (r : Nat × Mk) (w : World) (e : Ending) (w' : World) : Prop := e = .returned (errV r.1) ∧ MkIn w' B g r.2 ∧ Fr g B w w'
theorem errK {r : Nat × Mk} (c : Nat) (hc : c ≠ 0) (h : r.1 = c) : errV r.1 = .iface 23 (.int .i64 c) := by rw [h, errV_pos (by show (c : Int) ≠ 0; omega)]
theorem err0 {r : Nat × Mk} (h : r.1 = 0) : errV r.1 = .nilIface := by rw [h]; rfl
theorem own_slice {w : World} {B : Nat} {e : TypeId} {s : Nat} {v : Value} {n : Nat} {xs : List Value} (h : w.ownsRow B e s v n xs) : ∃ A c, v = .slice A n c := by
  rcases h.2 with ⟨rfl, rfl⟩ | ⟨g, cap, cur, rfl, _⟩
  · exact ⟨none, 0, rfl⟩
  · exact ⟨_, cap, rfl⟩
theorem cells_new (w : World) (cs : Array Value) (t : TypeId) : ∀ j u, cs.toList[j]? = some u → (w.alloc (.cells cs t)).cell? ((⟨w.heap.size, 0, none⟩ : Addr).add j) = some u := by
  intro j u hj
  rw [Go.WideShapes.add_plain, World.cell?_alloc_at _ _ _ _ rfl]
  simpa using hj
theorem var_info : (Tryd.prog.info? 94).map (fun i => (i.zero, i.size, i.bytes)) = some (some (.agg #[.string ByteArray.empty, .string ByteArray.empty]), 2, 32) := by kernel_rfl
theorem var_parts : ∃ i, Tryd.prog.info? 94 = some i ∧ i.zero = some (.agg #[.string ByteArray.empty, .string ByteArray.empty]) ∧ i.size = 2 ∧ i.bytes = 32 := by
  have h := var_info
  rw [Option.map_eq_some_iff] at h
  obtain ⟨i, hi, e⟩ := h
  simp only [Prod.mk.injEq] at e
  exact ⟨i, hi, e.1, e.2.1, e.2.2⟩
theorem rule_info : (Tryd.prog.info? 89).map (fun i => (i.zero, i.size, i.bytes)) = some (some (.agg #[.slice none 0 0, .slice none 0 0, .slice none 0 0]), 3, 72) := by kernel_rfl
theorem rule_parts : ∃ i, Tryd.prog.info? 89 = some i ∧ i.zero = some (.agg #[.slice none 0 0, .slice none 0 0, .slice none 0 0]) ∧ i.size = 3 ∧ i.bytes = 72 := by
  have h := rule_info
  rw [Option.map_eq_some_iff] at h
  obtain ⟨i, hi, e⟩ := h
  simp only [Prod.mk.injEq] at e
  exact ⟨i, hi, e.1, e.2.1, e.2.2⟩

set_option maxHeartbeats 400000 in
theorem litePrefix_any (s p : ByteArray) (w : World) (hs : s.size ≤ 1000000) :
    Calls Tryd.prog 84 #[.string s, .string p] w fun e w' => e = .returned (.tuple #[.string (if Lib.hasPrefix s.data.toList p.data.toList = true then s.extract p.size s.size else s), .bool (Lib.hasPrefix s.data.toList p.data.toList)]) ∧ w = w' := by
  obtain ⟨t, ht⟩ : ∃ t, t = if Lib.hasPrefix s.data.toList p.data.toList = true then s.extract p.size s.size else s := ⟨_, rfl⟩
  rw [← ht]
  have HT := Lib.hid ht
  clear ht
  obtain ⟨b, hb⟩ : ∃ b, b = Lib.hasPrefix s.data.toList p.data.toList := ⟨_, rfl⟩
  rw [← hb] at HT ⊢
  have HB := Lib.hid hb
  clear hb
  go_enter Tryd.func84, Tryd.ntmps84
  go_wp2_with fail
  refine (Tryd.stringslite_HasPrefix s p w).mono ?_
  rintro e w' ⟨rfl, rfl⟩
  rw [← HB.out]
  cases b with
  | false =>
    go_wp2
    go_ret2
    have ht := HT.out
    rw [if_neg (by simp)] at ht
    exact ⟨by rw [ht]; rfl, rfl⟩
  | true =>
    have hl : p.size ≤ s.size := by
      have hq := HB.out.symm
      rw [Lib.hasPrefix, List.isPrefixOf_iff_prefix] at hq
      have := hq.length_le
      simpa using this
    have hl' : (p.size : Int) ≤ (s.size : Int) := by omega
    go_wp2
    go_ret2
    have ht := HT.out
    rw [if_pos (by trivial)] at ht
    exact ⟨by rw [ht]; rfl, rfl⟩
set_option maxHeartbeats 400000 in
theorem cutPrefix_any (s p : ByteArray) (w : World) (hs : s.size ≤ 1000000) :
    Calls Tryd.prog 63 #[.string s, .string p] w fun e w' => e = .returned (.tuple #[.string (if Lib.hasPrefix s.data.toList p.data.toList = true then s.extract p.size s.size else s), .bool (Lib.hasPrefix s.data.toList p.data.toList)]) ∧ w = w' := by
  obtain ⟨t, ht⟩ : ∃ t, t = if Lib.hasPrefix s.data.toList p.data.toList = true then s.extract p.size s.size else s := ⟨_, rfl⟩
  rw [← ht]
  have HT := Lib.hid ht
  clear ht
  go_enter Tryd.func63, Tryd.ntmps63
  go_wp2_with fail
  refine (litePrefix_any s p w hs).mono ?_
  rintro e w' ⟨rfl, rfl⟩
  rw [← HT.out]
  go_wp2
  go_ret2
  exact ⟨rfl, rfl⟩

set_option maxHeartbeats 1000000 in
set_option maxRecDepth 100000 in
theorem addVar_any (B g : Nat) (m : Mk) (n t : ByteArray) (w : World) (h : MkIn w B g m) (hB : B ≤ w.heap.size) (hv : m.vars.length ≤ 1000000) (hn : n.size ≤ 1000000) :
    Calls Tryd.prog 67 #[.pointer (some ⟨g, 0, none⟩), .string n, .string t] w (AdPost B g (varR m n t) w) := by
  obtain ⟨i, hi, hz, hsz, hby⟩ := var_parts
  have HI := Lib.hid hi
  have HZ := Lib.hid hz
  have HS := Lib.hid hsz
  have HBY := Lib.hid hby
  clear hi hz hsz hby
  obtain ⟨r, hr⟩ : ∃ r, r = varR m n t := ⟨_, rfl⟩
  rw [← hr]
  unfold varR at hr
  have HR := Lib.hid hr
  have H0 := Lib.hid h
  obtain ⟨vv, vr, vp, R, hm⟩ := h
  obtain ⟨A, c, rfl, hrd⟩ := hm.rdVars
  have hc0 := hm.cell.1
  have hf0 := hm.frozen 0
  have HM := Lib.hid hm
  generalize hk : m.vars.length = k at *
  have HK := Lib.hid hk
  clear hr hm hrd hk
  go_enter Tryd.func67, Tryd.ntmps67
  go_wp2_with fail
  refine (var_any n w (by omega)).mono ?_
  rintro e w' ⟨rfl, rfl⟩
  cases hvo : varOk n with
  | false =>
    go_wp2
    go_ret
    have hx := HR.out
    rw [if_pos hvo] at hx
    exact ⟨by rw [errK 3 (by decide) (by rw [hx])]; rfl, by rw [hx]; exact H0.out, Fr.refl _ _ _⟩
  | true =>
    have hx0 := HR.out
    rw [if_neg (by rw [hvo]; simp)] at hx0
    have HX := Lib.hid hx0
    clear hx0
    by_cases h6 : 6 ≤ k
    · have t1 : (6 : Int) ≤ (k : Int) := by omega
      go_wp2
      go_ret
      have hx := HX.out
      rw [if_pos h6] at hx
      exact ⟨by rw [errK 2 (by decide) (by rw [hx])]; rfl, by rw [hx]; exact H0.out, Fr.refl _ _ _⟩
    · have t1 : decide ((6 : Int) ≤ (k : Int)) = false := decide_eq_false (by omega)
      have hown := HM.out.vars
      rw [HK.out] at hown
      have HO := Lib.hid (hown.alloc (.cells #[.string n, .string t] 94))
      have HC := Lib.hid (cells_new w #[.string n, .string t] 94)
      clear hown
      go_wp2_with (at_builtin; refine wpList_append_own_at _ rfl (.tmp 22) (.tmp 26) _ rfl B 94 i _ 2 32 Tryd.underlying58 HI.out HZ.out HS.out HBY.out rfl (by decide) _ _ _ rfl HO.out ⟨w.heap.size, 0, none⟩ 1 1 [.string n, .string t] rfl rfl HC.out (by simp [Value.oneCell']) ?_ ?_ ?_ ?_)
      · unfold maxLen; omega
      · omega
      · simp; omega
      intro v2 w2 hown2 hg2 _ _
      have hba : Below w.heap.size w (w.alloc (.cells #[.string n, .string t] 94)) := (Below.refl _ _).alloc (Nat.le_refl _) _
      have hm1 := HM.out.below hba
      have hb2 : w2.heap[g]? = some (.cells #[.slice A k c, vr, vp] 61 (0, 0)) := (hg2.block g hm1.lt (row_not_blk hm1.vars hm1.blk (by decide))).trans hm1.blk
      have q1 : w2.cell? ⟨g, 0, none⟩ = some (.slice A k c) := by simp [World.cell?, hb2]
      have q2 : w2.frozen? ⟨g, 0, none⟩ = false := by simp [World.frozen?, hb2]
      have hfr := (Fr.of_below (g := g) hba hB).trans (Fr.of_grown hg2 (by have := hba.size; omega) (fun j hj => .inl (hm1.vars.lt j hj).1))
      have hmv := hm1.moreVar (n, t) (by rw [HK.out]; exact hown2) hg2
      obtain ⟨A2, c2, rfl⟩ := own_slice hown2
      have HF := Lib.hid (hfr.setCell 0 (.slice A2 (k + 1) c2))
      have HV := Lib.hid hmv
      clear hba hm1 hb2 hfr hmv hown2 hg2 HO HC
      go_wp2
      go_ret
      have hx := HX.out
      rw [if_neg h6] at hx
      exact ⟨by rw [err0 (by rw [hx])]; rfl, by rw [hx]; exact ⟨_, _, _, _, HV.out⟩, HF.out⟩

set_option maxHeartbeats 1000000 in
set_option maxRecDepth 100000 in
theorem addPhony_any (B g : Nat) (m : Mk) (n : ByteArray) (w : World) (h : MkIn w B g m) (hB : B ≤ w.heap.size) (hv : m.phony.length ≤ 900000) (hn : n.size ≤ 1000000) :
    Calls Tryd.prog 65 #[.pointer (some ⟨g, 0, none⟩), .string n] w (AdPost B g (phonyR m n) w) := by
  obtain ⟨i, hi, hz, hsz, hby⟩ := text_parts
  have HI := Lib.hid hi
  have HZ := Lib.hid hz
  have HS := Lib.hid hsz
  have HBY := Lib.hid hby
  clear hi hz hsz hby
  obtain ⟨r, hr⟩ : ∃ r, r = phonyR m n := ⟨_, rfl⟩
  rw [← hr]
  unfold phonyR at hr
  have HR := Lib.hid hr
  have H0 := Lib.hid h
  obtain ⟨vv, vr, vp, R, hm⟩ := h
  obtain ⟨A, c, rfl, hrd⟩ := hm.rdPhony
  have hc0 := hm.cell.2.2
  have HM := Lib.hid hm
  have HRD := Lib.hid hrd
  generalize hk : m.phony.length = k at *
  have HK := Lib.hid hk
  clear hr hm hrd hk
  go_enter Tryd.func65, Tryd.ntmps65
  go_wp2_with fail
  refine (name_any n w (by omega)).mono ?_
  rintro e w' ⟨rfl, rfl⟩
  cases hno : nameB n with
  | false =>
    go_wp2
    go_ret
    have hx := HR.out
    rw [if_pos (.inl hno)] at hx
    exact ⟨by rw [errK 3 (by decide) (by rw [hx])]; rfl, by rw [hx]; exact H0.out, Fr.refl _ _ _⟩
  | true =>
    go_wp2_with fail
    refine (contains_any A k c m.phony n w HRD.out (by omega)).mono ?_
    rintro e w' ⟨rfl, rfl⟩
    cases hin : inT m.phony n with
    | true =>
      go_wp2
      go_ret
      have hx := HR.out
      rw [if_pos (.inr hin)] at hx
      exact ⟨by rw [errK 3 (by decide) (by rw [hx])]; rfl, by rw [hx]; exact H0.out, Fr.refl _ _ _⟩
    | false =>
      have hown := HM.out.phony
      unfold Own1 at hown
      rw [HK.out] at hown
      have HO := Lib.hid (hown.alloc (.cells #[.string n] 9))
      have HC := Lib.hid (cells_new w #[.string n] 9)
      clear hown
      go_wp2_with (at_builtin; refine wpList_append_own_at _ rfl (.tmp 21) (.tmp 23) _ rfl B 9 i _ 1 16 Tryd.underlying32 HI.out HZ.out HS.out HBY.out rfl (by decide) _ _ _ rfl HO.out ⟨w.heap.size, 0, none⟩ 1 1 [.string n] rfl rfl HC.out (by simp [Value.oneCell']) ?_ ?_ ?_ ?_)
      · unfold maxLen; omega
      · omega
      · simp; omega
      intro v2 w2 hown2 hg2 _ hloc
      have hba : Below w.heap.size w (w.alloc (.cells #[.string n] 9)) := (Below.refl _ _).alloc (Nat.le_refl _) _
      have hm1 := HM.out.below hba
      have hb2 : w2.heap[g]? = some (.cells #[vv, vr, .slice A k c] 61 (0, 0)) := (hg2.block g hm1.lt (row_not_blk hm1.phony hm1.blk (by decide))).trans hm1.blk
      have q1 : w2.cell? ⟨g, 2, none⟩ = some (.slice A k c) := by simp [World.cell?, hb2]
      have q2 : w2.frozen? ⟨g, 2, none⟩ = false := by simp [World.frozen?, hb2]
      have hfr := (Fr.of_below (g := g) hba hB).trans (Fr.of_grown hg2 (by have := hba.size; omega) (fun j hj => .inl (hm1.phony.lt j hj).1))
      have hmv := hm1.morePhony n (by rw [HK.out]; exact hown2) hg2 (by rw [World.size_alloc]; exact hloc)
      obtain ⟨A2, c2, rfl⟩ := own_slice hown2
      have HF := Lib.hid (hfr.setCell 2 (.slice A2 (k + 1) c2))
      have HV := Lib.hid hmv
      clear hba hm1 hb2 hfr hmv hown2 hg2 HO HC hloc
      go_wp2
      go_ret
      have hx := HR.out
      rw [if_neg (by rw [hno, hin]; simp)] at hx
      exact ⟨by rw [err0 (by rw [hx])]; rfl, by rw [hx]; exact ⟨_, _, _, _, HV.out⟩, HF.out⟩
end Go.Proofs.YtpolnompiinanaaDoor
