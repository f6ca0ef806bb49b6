/-
  WALKS: graph.Maker (which group makes a name), with slices.IndexFunc over groups; ruleFor's function literal, slices.IndexFunc over rules with it, (*walk).ruleFor.
-/
import Derived.Test.YtlkpbpecgdphaaaGreatDoorUp
import Derived.Test.YtlkpbpecgdphaaaGreatDoorGq
namespace Go.Proofs.YtlkpbpecgdphaaaGreatDoor
open Go.RowKit

abbrev tRu : TypeId := 115
abbrev tWk : TypeId := 83
/-- Maker's function literal: does a group make the name in box X? -/
abbrev mkF (X : Nat) : Value := .func (.func 41) #[] #[ptr X]
abbrev rfF (X : Nat) : Value := .func (.func 130) #[] #[ptr X]
set_option maxRecDepth 100000 in
set_option maxHeartbeats 1000000 in
theorem maker1_any (tg : List ByteArray) (a b c : Value) (ph : Bool) (X : Nat) (name : ByteArray) (w : World) (ha : Sl w a tg) (ht : tg.length ≤ 1000) (hx : w.cell? ⟨X, 0, none⟩ = some (.string name)) (hX : X < w.heap.size) :
    Calls Tryz.prog 41 #[.agg #[a, b, c, .bool ph], ptr X] w fun e w' => e = .returned (.bool (inT tg name)) ∧ Below w.heap.size w w' := by
  have hba : Below w.heap.size w (w.alloc (.cells #[a, b, c, .bool ph] tGr)) := (Below.refl _ _).alloc (Nat.le_refl _) _
  obtain ⟨At, ct, rfl, hr⟩ := ha.belowS hba
  have c0 : (w.alloc (.cells #[.slice At tg.length ct, b, c, .bool ph] tGr)).cell? ⟨w.heap.size, 0, none⟩ = some (.slice At tg.length ct) := by rw [World.cell?_alloc_at _ _ _ _ rfl]; rfl
  have cX : (w.alloc (.cells #[.slice At tg.length ct, b, c, .bool ph] tGr)).cell? ⟨X, 0, none⟩ = some (.string name) := by rw [World.cell?_alloc_lt _ _ _ hX]; exact hx
  have HB := Lib.hid hba
  have HC := Lib.hid (contains_any At tg.length ct tg name _ hr (by omega))
  generalize hh : inT tg name = bb at *
  clear hba hr ha hh
  go_enter Tryz.func41, Tryz.ntmps41
  go_wp2_with fail
  refine HC.out.mono ?_
  rintro e w1 ⟨rfl, rfl⟩
  go_wp2
  go_ret
  exact ⟨rfl, HB.out⟩

/-- A search over a list by calls that only make memory: k of them are done. -/
def IxRel {α : Type} (w : World) (l : List α) (p : α → Bool) (n : Nat) (i : Value) (wr : World) : Prop := ∃ k : Nat, k ≤ n ∧ i = .int .i64 k ∧ l.findIdx? p = ((l.drop k).findIdx? p).map (· + k) ∧ Below w.heap.size w wr
set_option maxRecDepth 100000 in
set_option maxHeartbeats 2000000 in
theorem indexG_any (X : Nat) (A : Option Addr) (n c : Nat) (out : List Gp) (R : List Row4) (name : ByteArray) (w : World) (h : GpRd w A n c out R) (hn : n ≤ 1000000) (ht : ∀ g ∈ out, g.tg.length ≤ 1000) (hx : w.cell? ⟨X, 0, none⟩ = some (.string name)) (hX : X < w.heap.size) :
    Calls Tryz.prog 40 #[.slice A n c, mkF X] w fun e w' => e = .returned (.int .i64 (idxV (makerO out name))) ∧ Below w.heap.size w w' := by
  obtain ⟨r, hr⟩ : ∃ r, r = idxV (makerO out name) := ⟨_, rfl⟩
  rw [← hr]
  have HH := Lib.hid h
  have HT := Lib.hid ht
  have HX := Lib.hid hx
  have HV := Lib.hid hr
  have HL := Lib.hid h.len
  have HRL := Lib.hid h.rows.1
  clear h ht hx hr
  go_enter Tryz.func40, Tryz.ntmps40
  go_wp2
  go_loopw [8] (fun i wr => IxRel w out (fun g => inT g.tg name) n i wr) (fun i _ => n - (intOf i).toNat)
  case atStart => exact ⟨0, Nat.zero_le _, rfl, by simp, Below.refl _ _⟩
  case round =>
    obtain ⟨k, hk, rfl, hno, hb⟩ := hrel
    have HN := Lib.hid hno
    have HB := Lib.hid hb
    have hsz := hb.size
    clear hno hb
    by_cases hlt : k < n
    · obtain ⟨x, hx⟩ : ∃ x, R[k]? = some x := ⟨_, List.getElem?_eq_getElem (by rw [HRL.out]; exact hlt)⟩
      obtain ⟨g, hg⟩ : ∃ g, out[k]? = some g := ⟨_, List.getElem?_eq_getElem (by rw [HL.out]; exact hlt)⟩
      have hh := HH.out.belowS HB.out
      obtain ⟨b', off, rfl, _, c1, c2, c3, c4⟩ := hh.rows.at_ hx
      obtain ⟨s1, -⟩ := hh.each k x g hx hg
      obtain ⟨x1, x2, x3, x4⟩ := x
      dsimp only at c1 c2 c3 c4 s1
      have hkz : (k : Int) < (n : Int) := by omega
      obtain ⟨q1, q2⟩ := findIdx_next HN.out hg
      have Q1 := Lib.hid q1
      have Q2 := Lib.hid q2
      have hc := (maker1_any g.tg x1 x2 x3 x4 X name wr s1 (HT.out g (List.mem_of_getElem? hg)) ((HB.out.cell (p := ⟨X, 0, none⟩) hX).trans HX.out) (by omega))
      clear q1 q2 hx hg hh s1
      cases hb : inT g.tg name with
      | true =>
        rw [hb] at hc
        have HC := Lib.hid hc
        clear hc
        have hf := Q1.out hb
        have hv := HV.out
        rw [show makerO out name = some k from hf] at hv
        have hv' : r = (k : Int) := hv
        subst hv'
        clear hb hf hv HV Q1 Q2 HN
        go_wp2_with (go_at_call 41; refine HC.out.mono ?_; rintro e w2 ⟨rfl, hb2⟩; have HB2 := Lib.hid (HB.out.trans (hb2.mono hsz)); clear hb2)
        go_ret
        exact ⟨rfl, HB2.out⟩
      | false =>
        have HF := Lib.hid (Q2.out hb)
        rw [hb] at hc
        have HC := Lib.hid hc
        clear hb Q1 Q2 hc
        go_wp2_with (go_at_call 41; refine HC.out.mono ?_; rintro e w2 ⟨rfl, hb2⟩; have HB2 := Lib.hid (HB.out.trans (hb2.mono hsz)); clear hb2)
        go_roundw
        case rel => exact ⟨k + 1, by omega, by go_num, HF.out, HB2.out⟩
        case measure => simp [intOf]; omega
    · obtain rfl : k = n := by omega
      have hf := findIdx_end HN.out (by rw [HL.out]; exact Nat.le_refl _)
      have hv := HV.out
      rw [show makerO out name = none from hf] at hv
      have hv' : r = -1 := hv
      subst hv'
      clear hf hv HV HN
      go_wp2
      go_ret
      exact ⟨rfl, HB.out⟩
set_option maxRecDepth 100000 in
set_option maxHeartbeats 1000000 in
theorem maker_any (A : Option Addr) (n c : Nat) (out : List Gp) (R : List Row4) (name : ByteArray) (w : World) (h : GpRd w A n c out R) (hn : n ≤ 1000000) (ht : ∀ g ∈ out, g.tg.length ≤ 1000) :
    Calls Tryz.prog 15 #[.slice A n c, .string name] w fun e w' => e = .returned (.int .i64 (idxV (makerO out name))) ∧ Below w.heap.size w w' := by
  have hba : Below w.heap.size w (w.alloc (.cells #[.string name] 9)) := (Below.refl _ _).alloc (Nat.le_refl _) _
  have HC := Lib.hid (indexG_any w.heap.size A n c out R name _ (h.belowS hba) hn ht (by rw [World.cell?_alloc_at _ _ _ _ rfl]; rfl) (by simp))
  have HB := Lib.hid hba
  generalize hh : idxV (makerO out name) = bb at *
  clear hba h hh
  go_enter Tryz.func15, Tryz.ntmps15
  go_wp2_with fail
  refine HC.out.mono ?_
  rintro e w1 ⟨rfl, hb1⟩
  have HB1 := Lib.hid (HB.out.trans (hb1.mono HB.out.size))
  clear hb1
  go_wp2
  go_ret
  exact ⟨rfl, HB1.out⟩

/-- The walk's own variable in memory: rules, phony names and files that are read; the map of open names; the groups. -/
structure WkRd (w : World) (pw : Nat) (m : Mk) (l : List F) (vr vp vf vm vg : Value) (R : List Row3) : Prop where
  blk : Blk w pw tWk #[vr, vp, vf, vm, vg]
  rules : ∃ A c, vr = .slice A R.length c ∧ RdR w w.heap.size A R.length c R
  len : R.length = m.rules.length
  each : ∀ (i : Nat) (x : Row3) (u : Ru), R[i]? = some x → m.rules[i]? = some u → Sl w x.1 u.1 ∧ Sl w x.2.1 u.2.1 ∧ Sl w x.2.2 u.2.2
  phony : Sl w vp m.phony
  files : ∃ A c, vf = .slice A l.length c ∧ RdF w w.heap.size A l.length c l
theorem WkRd.belowS {w w' : World} {pw : Nat} {m : Mk} {l : List F} {vr vp vf vm vg : Value} {R : List Row3} (h : WkRd w pw m l vr vp vf vm vg R) (hb : Below w.heap.size w w') : WkRd w' pw m l vr vp vf vm vg R := by
  obtain ⟨A, c, e, hr⟩ := h.rules
  obtain ⟨A2, c2, e2, hr2⟩ := h.files
  exact ⟨(hb.block _ h.blk.lt).trans h.blk, ⟨A, c, e, hr.belowS hb⟩, h.len, fun i x u hx hu => by obtain ⟨a, b, c⟩ := h.each i x u hx hu; exact ⟨a.belowS hb, b.belowS hb, c.belowS hb⟩, h.phony.belowS hb, ⟨A2, c2, e2, hr2.belowS hb⟩⟩
set_option maxRecDepth 100000 in
set_option maxHeartbeats 1000000 in
theorem rule1_any (tg : List ByteArray) (a b c : Value) (X : Nat) (name : ByteArray) (w : World) (ha : Sl w a tg) (ht : tg.length ≤ 1000) (hx : w.cell? ⟨X, 0, none⟩ = some (.string name)) (hX : X < w.heap.size) :
    Calls Tryz.prog 130 #[.agg #[a, b, c], ptr X] w fun e w' => e = .returned (.bool (inT tg name)) ∧ Below w.heap.size w w' := by
  have hba : Below w.heap.size w (w.alloc (.cells #[a, b, c] tRu)) := (Below.refl _ _).alloc (Nat.le_refl _) _
  obtain ⟨At, ct, rfl, hr⟩ := ha.belowS hba
  have c0 : (w.alloc (.cells #[.slice At tg.length ct, b, c] tRu)).cell? ⟨w.heap.size, 0, none⟩ = some (.slice At tg.length ct) := by rw [World.cell?_alloc_at _ _ _ _ rfl]; rfl
  have cX : (w.alloc (.cells #[.slice At tg.length ct, b, c] tRu)).cell? ⟨X, 0, none⟩ = some (.string name) := by rw [World.cell?_alloc_lt _ _ _ hX]; exact hx
  have HB := Lib.hid hba
  have HC := Lib.hid (contains_any At tg.length ct tg name _ hr (by omega))
  generalize hh : inT tg name = bb at *
  clear hba hr ha hh
  go_enter Tryz.func130, Tryz.ntmps130
  go_wp2_with fail
  refine HC.out.mono ?_
  rintro e w1 ⟨rfl, rfl⟩
  go_wp2
  go_ret
  exact ⟨rfl, HB.out⟩
set_option maxRecDepth 100000 in
set_option maxHeartbeats 2000000 in
theorem indexR_any (X : Nat) (A : Option Addr) (c : Nat) (rules : List Ru) (R : List Row3) (name : ByteArray) (w : World) (h : RdR w w.heap.size A R.length c R) (hl : R.length = rules.length) (he : ∀ (i : Nat) (x : Row3) (u : Ru), R[i]? = some x → rules[i]? = some u → Sl w x.1 u.1)
    (hn : R.length ≤ 1000) (ht : ∀ r ∈ rules, r.1.length ≤ 1000) (hx : w.cell? ⟨X, 0, none⟩ = some (.string name)) (hX : X < w.heap.size) :
    Calls Tryz.prog 101 #[.slice A R.length c, rfF X] w fun e w' => e = .returned (.int .i64 (idxV (explO rules name))) ∧ Below w.heap.size w w' := by
  obtain ⟨r, hr⟩ : ∃ r, r = idxV (explO rules name) := ⟨_, rfl⟩
  rw [← hr]
  obtain ⟨n, hnn⟩ : ∃ n, n = R.length := ⟨_, rfl⟩
  rw [← hnn] at h hl hn ⊢
  have HH := Lib.hid h
  have HE := Lib.hid he
  have HT := Lib.hid ht
  have HX := Lib.hid hx
  have HV := Lib.hid hr
  have HL := Lib.hid hl
  have HRL := Lib.hid hnn
  clear h ht hx hr he hl hnn
  go_enter Tryz.func101, Tryz.ntmps101
  go_wp2
  go_loopw [8] (fun i wr => IxRel w rules (fun g => inT g.1 name) n i wr) (fun i _ => n - (intOf i).toNat)
  case atStart => exact ⟨0, Nat.zero_le _, rfl, by simp, Below.refl _ _⟩
  case round =>
    obtain ⟨k, hk, rfl, hno, hb⟩ := hrel
    have HN := Lib.hid hno
    have HB := Lib.hid hb
    have hsz := hb.size
    clear hno hb
    by_cases hlt : k < n
    · obtain ⟨x, hx⟩ : ∃ x, R[k]? = some x := ⟨_, List.getElem?_eq_getElem (by rw [← HRL.out]; exact hlt)⟩
      obtain ⟨g, hg⟩ : ∃ g, rules[k]? = some g := ⟨_, List.getElem?_eq_getElem (by rw [← HL.out]; exact hlt)⟩
      obtain ⟨b', off, rfl, _, c1, c2, c3⟩ := (HH.out.belowS HB.out).at_ hx
      have s1 := (HE.out k x g hx hg).belowS HB.out
      obtain ⟨x1, x2, x3⟩ := x
      dsimp only at c1 c2 c3 s1
      have hkz : (k : Int) < (n : Int) := by omega
      obtain ⟨q1, q2⟩ := findIdx_next HN.out hg
      have Q1 := Lib.hid q1
      have Q2 := Lib.hid q2
      have hc := (rule1_any g.1 x1 x2 x3 X name wr s1 (HT.out g (List.mem_of_getElem? hg)) ((HB.out.cell (p := ⟨X, 0, none⟩) hX).trans HX.out) (by omega))
      clear q1 q2 hx hg s1
      cases hb : inT g.1 name with
      | true =>
        rw [hb] at hc
        have HC := Lib.hid hc
        clear hc
        have hf := Q1.out hb
        have hv := HV.out
        rw [show explO rules name = some k from hf] at hv
        have hv' : r = (k : Int) := hv
        subst hv'
        clear hb hf hv HV Q1 Q2 HN
        go_wp2_with (go_at_call 130; refine HC.out.mono ?_; rintro e w2 ⟨rfl, hb2⟩; have HB2 := Lib.hid (HB.out.trans (hb2.mono hsz)); clear hb2)
        go_ret
        exact ⟨rfl, HB2.out⟩
      | false =>
        have HF := Lib.hid (Q2.out hb)
        rw [hb] at hc
        have HC := Lib.hid hc
        clear hb Q1 Q2 hc
        go_wp2_with (go_at_call 130; refine HC.out.mono ?_; rintro e w2 ⟨rfl, hb2⟩; have HB2 := Lib.hid (HB.out.trans (hb2.mono hsz)); clear hb2)
        go_roundw
        case rel => exact ⟨k + 1, by omega, by go_num, HF.out, HB2.out⟩
        case measure => simp [intOf]; omega
    · obtain rfl : k = n := by omega
      have hf := findIdx_end HN.out (by rw [← HL.out]; exact Nat.le_refl _)
      have hv := HV.out
      rw [show explO rules name = none from hf] at hv
      have hv' : r = -1 := hv
      subst hv'
      clear hf hv HV HN
      go_wp2
      go_ret
      exact ⟨rfl, HB.out⟩
set_option maxRecDepth 100000 in
set_option maxHeartbeats 1000000 in
theorem ruleFor_any (pw : Nat) (m : Mk) (l : List F) (vr vp vf vm vg : Value) (R : List Row3) (name : ByteArray) (w : World) (h : WkRd w pw m l vr vp vf vm vg R) (hn : m.rules.length ≤ 1000) (ht : ∀ r ∈ m.rules, r.1.length ≤ 1000) :
    Calls Tryz.prog 99 #[ptr pw, .string name] w fun e w' => e = .returned (.int .i64 (idxV (explO m.rules name))) ∧ Below w.heap.size w w' := by
  have hba : Below w.heap.size w (w.alloc (.cells #[.string name] 9)) := (Below.refl _ _).alloc (Nat.le_refl _) _
  have hM := h.belowS hba
  obtain ⟨A, c, rfl, hr⟩ := hM.rules
  have HC := Lib.hid (indexR_any w.heap.size A c m.rules R name _ hr hM.len (fun i x u hx hu => (hM.each i x u hx hu).1) (by rw [h.len]; exact hn) ht (by rw [World.cell?_alloc_at _ _ _ _ rfl]; rfl) (by simp))
  have HB := Lib.hid hba
  have c0 := hM.blk.cell 0
  generalize hh : idxV (explO m.rules name) = bb at *
  clear hba h hh hM hr
  go_enter Tryz.func99, Tryz.ntmps99
  go_wp2_with fail
  refine HC.out.mono ?_
  rintro e w1 ⟨rfl, hb1⟩
  have HB1 := Lib.hid (HB.out.trans (hb1.mono HB.out.size))
  clear hb1
  go_wp2
  go_ret
  exact ⟨rfl, HB1.out⟩
end Go.Proofs.YtlkpbpecgdphaaaGreatDoor
