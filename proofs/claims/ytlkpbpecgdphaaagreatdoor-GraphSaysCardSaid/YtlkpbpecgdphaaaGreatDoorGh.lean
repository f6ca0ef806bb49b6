/-
  WALKS: graph.Maker (which group makes a name), with slices.IndexFunc over groups; ruleFor's function literal, slices.IndexFunc over rules with it, (*walk).ruleFor.
-/
import Derived.Test.YtlkpbpecgdphaaaGreatDoorUp
import Derived.Test.YtlkpbpecgdphaaaGreatDoorShaped
namespace Go.Proofs.YtlkpbpecgdphaaaGreatDoor
open Go.RowKit

theorem replace_first (s y : ByteArray) : (⟨(Lib.replace s.data.toList [37] y.data.toList 1).toArray⟩ : ByteArray) = onceB s y := by
  by_cases hy : y.data.toList = [37]
  · have e : Lib.replace s.data.toList [37] y.data.toList 1 = s.data.toList := by
      unfold Lib.replace
      rw [hy, if_pos (by rfl)]
    rw [e]
    unfold onceB
    split
    · rename_i h
      rcases Lib.index_spec s.data.toList [37] with ⟨h1, _⟩ | ⟨i, h1, _, h3, _⟩
      · rw [cut_none h1] at h; cases h
      · rw [cut_at h1, hy]
        unfold Lib.occAt at h3
        rw [List.isPrefixOf_iff_prefix] at h3
        obtain ⟨t, ht⟩ := h3
        have e2 : s.data.toList.drop (i + [(37 : UInt8)].length) = t := by
          rw [← List.drop_drop, ← ht]; simp
        dsimp only
        rw [e2, ht, List.take_append_drop]
        rfl
    · rfl
  unfold Lib.replace onceB
  rw [if_neg (by simp; intro h; exact hy (by rw [← h]))]
  have hge := Lib.index_ge s.data.toList [37]
  by_cases h : Lib.index s.data.toList [37] = -1
  · rw [cut_none h]
    have hc : Lib.count s.data.toList [37] = 0 := by
      unfold Lib.count Lib.countFrom
      simp [h]
    have hn : Lib.replaceNum s.data.toList [37] 1 = 0 := by unfold Lib.replaceNum; rw [hc]; simp
    rw [hn]
    simp only [Lib.replaceK, Bool.false_eq_true, if_false]
  · obtain ⟨i, ei⟩ : ∃ i : Nat, Lib.index s.data.toList [37] = i := ⟨(Lib.index s.data.toList [37]).toNat, by omega⟩
    rw [cut_at ei]
    have hc : 1 ≤ Lib.count s.data.toList [37] := by
      unfold Lib.count Lib.countFrom
      have : (Lib.index s.data.toList [37] == -1) = false := by rw [beq_eq_false_iff_ne]; exact h
      rw [this]
      simp
    have hn : Lib.replaceNum s.data.toList [37] 1 = 1 := by unfold Lib.replaceNum; rw [if_neg (by omega)]; rfl
    rw [hn, Lib.replaceK_hit _ _ _ _ i ei]
    simp [Lib.replaceK, ba]
theorem replace1_any (s y : ByteArray) (w : World) (hs : s.size ≤ 1000000) (hy : y.size ≤ 1000000) (hm : MaxOk w) : Calls Tryz.prog 133 #[.string s, .string ⟨#[37]⟩, .string y, .int .i64 1] w fun e w' => e = .returned (.string (onceB s y)) ∧ Below w.heap.size w w' := by
  obtain ⟨m, hm⟩ := hm
  refine (Tryz.strings_Replace s ⟨#[37]⟩ y 1 m w (by omega) hm (by decide) ?_).mono ?_
  · have h1 : Lib.countB s ⟨#[37]⟩ ≤ s.size := by
      have : Lib.countB s ⟨#[37]⟩ = s.data.toList.count 37 := Lib.count_one 37 _
      rw [this]
      have := List.count_le_length (a := (37 : UInt8)) (l := s.data.toList)
      simpa using this
    have h2 : Lib.countB s ⟨#[37]⟩ * y.size ≤ 1000000 * 1000000 := Nat.mul_le_mul (by omega) hy
    omega
  · rintro e w' ⟨rfl, hb⟩
    exact ⟨by rw [← replace_first], hb⟩

structure GfiRel (w : World) (nd : List ByteArray) (stem : ByteArray) (n : Nat) (v i : Value) (wr : World) : Prop where
  ex : ∃ (k : Nat), k ≤ n ∧ i = .int .i64 k ∧ wr.ownsRow w.heap.size 9 1 v k (tcells (fillR (nd.take k) stem)) ∧ Below w.heap.size w wr
theorem fillR_take {nd : List ByteArray} {stem x : ByteArray} {k : Nat} (h : nd[k]? = some x) : fillR (nd.take (k + 1)) stem = fillR (nd.take k) stem ++ [onceB x stem] := by
  unfold fillR
  rw [List.take_add_one, h]; simp
set_option maxHeartbeats 2000000 in
set_option maxRecDepth 100000 in
theorem filled_any (A : Option Addr) (n c : Nat) (nd : List ByteArray) (stem : ByteArray) (w : World) (h : RdS w w.heap.size A n c nd) (hn : n ≤ 1000) (hs : ∀ x ∈ nd, x.size ≤ 1000) (hy : stem.size ≤ 1000) (hm : MaxOk w) :
    Calls Tryz.prog 104 #[.slice A n c, .string stem] w fun e w' => ∃ v, e = .returned v ∧ w'.ownsRow w.heap.size 9 1 v n (tcells (fillR nd stem)) ∧ Below w.heap.size w w' := by
  obtain ⟨ti, hi, hz, hsz, hby⟩ := text_parts
  have HI := Lib.hid hi
  have HZ := Lib.hid hz
  have HS := Lib.hid hsz
  have HB := Lib.hid hby
  have HR := Lib.hid h
  have HSZ := Lib.hid hs
  have HM := Lib.hid hm
  have HL := Lib.hid h.1
  clear hi hz hsz hby h hs hm
  go_enter Tryz.func104, Tryz.ntmps104
  go_wp2
  go_loopw [5, 10] (fun v i wr => GfiRel w nd stem n v i wr) (fun _ i _ => n - (intOf i).toNat)
  case atStart => exact ⟨0, Nat.zero_le _, rfl, World.ownsRow_nil _ _ _ _, Below.refl _ _⟩
  case round =>
    obtain ⟨k, hk, rfl, hown, hb⟩ := hrel.ex
    clear hrel
    have HO := Lib.hid hown
    have HBW := Lib.hid hb
    clear hown hb
    by_cases hlt : k < n
    · have hkz : (k : Int) < (n : Int) := by omega
      obtain ⟨x, hx⟩ : ∃ x, nd[k]? = some x := ⟨_, List.getElem?_eq_getElem (by rw [HL.out]; exact hlt)⟩
      have HR2 := Lib.hid (HR.out.belowS HBW.out)
      obtain ⟨b', off, rfl, _, hc1⟩ := HR2.out.at_ hx
      have hxs : x.size ≤ 1000 := HSZ.out x (List.mem_of_getElem? hx)
      have HT := Lib.hid (fillR_take (stem := stem) hx)
      clear hx
      go_wp2_with fail
      refine (replace1_any x stem wr (by omega) (by omega) (HM.out.below HBW.out)).mono ?_
      rintro e w1 ⟨rfl, hb1⟩
      have HB1 := Lib.hid (HBW.out.trans (hb1.mono HBW.out.size))
      have HO1 := Lib.hid ((HO.out.kept (grown_of_below hb1) (by cases (_ : Value).ownBlock <;> simp)).alloc (.cells #[.string (onceB x stem)] 9))
      have H1 := Lib.hid (RdS_one' w1 (onceB x stem) 9)
      have hb2 : Below w.heap.size w (w1.alloc (.cells #[.string (onceB x stem)] 9)) := HB1.out.alloc HB1.out.size _
      have hs1 := hb2.size
      go_wp2_with (at_builtin; refine wpList_append_texts _ rfl (.tmp 14) (.tmp 18) _ rfl w.heap.size 9 ti _ 16 Tryz.underlying27 HI.out HZ.out HS.out HB.out rfl _ _ _ rfl HO1.out _ _ 1 1 [onceB x stem] rfl H1.out ?_ ?_ ?_ ?_)
      · unfold maxLen; omega
      · omega
      · simpa using hs1
      intro v2 w2 hown2 hg2
      have hb3 : Below w.heap.size w w2 := hb2.grown hg2 hs1 (fun g' hg' => (HO1.out.lt g' hg').1)
      have HV := Lib.hid hown2
      clear hown2 HO1 H1 hs1
      go_wp2
      go_roundw
      case rel => exact ⟨k + 1, by omega, by go_num, by rw [HT.out]; exact HV.out, hb3⟩
      case measure => simp [intOf]; omega
    · obtain rfl : k = n := by omega
      have HF := Lib.hid (show nd.take k = nd from List.take_of_length_le (by rw [HL.out]; exact Nat.le_refl _))
      go_wp2
      go_ret
      exact ⟨_, rfl, by have := HO.out; rwa [HF.out] at this, HBW.out⟩
end Go.Proofs.YtlkpbpecgdphaaaGreatDoor
namespace Go.Proofs.YtlkpbpecgdphaaaGreatDoor
open Go.RowKit

abbrev tRu : TypeId := 115
abbrev tWk : TypeId := 83
/-- Maker's function literal: does a group make the name in box X? -/
abbrev mkF (X : Nat) : Value := .func (.func 41) #[] #[ptr X]
abbrev rfF (X : Nat) : Value := .func (.func 130) #[] #[ptr X]
set_option maxRecDepth 100000 in
set_option maxHeartbeats 1000000 in
theorem maker1_any (tg : List ByteArray) (a b c : Value) (ph : Bool) (X : Nat) (name : ByteArray) (w : World) (ha : Sl w a tg) (ht : tg.length ≤ 1000) (hx : w.cell? ⟨X, 0, none⟩ = some (.string name)) (hX : X < w.heap.size) :
    Calls Tryz.prog 41 #[.agg #[a, b, c, .bool ph], ptr X] w fun e w' => e = .returned (.bool (inT tg name)) ∧ Below w.heap.size w w' := by
  have hba : Below w.heap.size w (w.alloc (.cells #[a, b, c, .bool ph] tGr)) := (Below.refl _ _).alloc (Nat.le_refl _) _
  obtain ⟨At, ct, rfl, hr⟩ := ha.belowS hba
  have c0 : (w.alloc (.cells #[.slice At tg.length ct, b, c, .bool ph] tGr)).cell? ⟨w.heap.size, 0, none⟩ = some (.slice At tg.length ct) := by rw [World.cell?_alloc_at _ _ _ _ rfl]; rfl
  have cX : (w.alloc (.cells #[.slice At tg.length ct, b, c, .bool ph] tGr)).cell? ⟨X, 0, none⟩ = some (.string name) := by rw [World.cell?_alloc_lt _ _ _ hX]; exact hx
  have HB := Lib.hid hba
  have HC := Lib.hid (contains_any At tg.length ct tg name _ hr (by omega))
  generalize hh : inT tg name = bb at *
  clear hba hr ha hh
  go_enter Tryz.func41, Tryz.ntmps41
  go_wp2_with fail
  refine HC.out.mono ?_
  rintro e w1 ⟨rfl, rfl⟩
  go_wp2
  go_ret
  exact ⟨rfl, HB.out⟩

/-- A search over a list by calls that only make memory: k of them are done. -/
def IxRel {α : Type} (w : World) (l : List α) (p : α → Bool) (n : Nat) (i : Value) (wr : World) : Prop := ∃ k : Nat, k ≤ n ∧ i = .int .i64 k ∧ l.findIdx? p = ((l.drop k).findIdx? p).map (· + k) ∧ Below w.heap.size w wr
set_option maxRecDepth 100000 in
set_option maxHeartbeats 2000000 in
theorem indexG_any (X : Nat) (A : Option Addr) (n c : Nat) (out : List Gp) (R : List Row4) (name : ByteArray) (w : World) (h : GpRd w A n c out R) (hn : n ≤ 1000000) (ht : ∀ g ∈ out, g.tg.length ≤ 1000) (hx : w.cell? ⟨X, 0, none⟩ = some (.string name)) (hX : X < w.heap.size) :
    Calls Tryz.prog 40 #[.slice A n c, mkF X] w fun e w' => e = .returned (.int .i64 (idxV (makerO out name))) ∧ Below w.heap.size w w' := by
  obtain ⟨r, hr⟩ : ∃ r, r = idxV (makerO out name) := ⟨_, rfl⟩
  rw [← hr]
  have HH := Lib.hid h
  have HT := Lib.hid ht
  have HX := Lib.hid hx
  have HV := Lib.hid hr
  have HL := Lib.hid h.len
  have HRL := Lib.hid h.rows.1
  clear h ht hx hr
  go_enter Tryz.func40, Tryz.ntmps40
  go_wp2
  go_loopw [8] (fun i wr => IxRel w out (fun g => inT g.tg name) n i wr) (fun i _ => n - (intOf i).toNat)
  case atStart => exact ⟨0, Nat.zero_le _, rfl, by simp, Below.refl _ _⟩
  case round =>
    obtain ⟨k, hk, rfl, hno, hb⟩ := hrel
    have HN := Lib.hid hno
    have HB := Lib.hid hb
    have hsz := hb.size
    clear hno hb
    by_cases hlt : k < n
    · obtain ⟨x, hx⟩ : ∃ x, R[k]? = some x := ⟨_, List.getElem?_eq_getElem (by rw [HRL.out]; exact hlt)⟩
      obtain ⟨g, hg⟩ : ∃ g, out[k]? = some g := ⟨_, List.getElem?_eq_getElem (by rw [HL.out]; exact hlt)⟩
      have hh := HH.out.belowS HB.out
      obtain ⟨b', off, rfl, _, c1, c2, c3, c4⟩ := hh.rows.at_ hx
      obtain ⟨s1, -⟩ := hh.each k x g hx hg
      obtain ⟨x1, x2, x3, x4⟩ := x
      dsimp only at c1 c2 c3 c4 s1
      have hkz : (k : Int) < (n : Int) := by omega
      obtain ⟨q1, q2⟩ := findIdx_next HN.out hg
      have Q1 := Lib.hid q1
      have Q2 := Lib.hid q2
      have hc := (maker1_any g.tg x1 x2 x3 x4 X name wr s1 (HT.out g (List.mem_of_getElem? hg)) ((HB.out.cell (p := ⟨X, 0, none⟩) hX).trans HX.out) (by omega))
      clear q1 q2 hx hg hh s1
      cases hb : inT g.tg name with
      | true =>
        rw [hb] at hc
        have HC := Lib.hid hc
        clear hc
        have hf := Q1.out hb
        have hv := HV.out
        rw [show makerO out name = some k from hf] at hv
        have hv' : r = (k : Int) := hv
        subst hv'
        clear hb hf hv HV Q1 Q2 HN
        go_wp2_with (go_at_call 41; refine HC.out.mono ?_; rintro e w2 ⟨rfl, hb2⟩; have HB2 := Lib.hid (HB.out.trans (hb2.mono hsz)); clear hb2)
        go_ret
        exact ⟨rfl, HB2.out⟩
      | false =>
        have HF := Lib.hid (Q2.out hb)
        rw [hb] at hc
        have HC := Lib.hid hc
        clear hb Q1 Q2 hc
        go_wp2_with (go_at_call 41; refine HC.out.mono ?_; rintro e w2 ⟨rfl, hb2⟩; have HB2 := Lib.hid (HB.out.trans (hb2.mono hsz)); clear hb2)
        go_roundw
        case rel => exact ⟨k + 1, by omega, by go_num, HF.out, HB2.out⟩
        case measure => simp [intOf]; omega
    · obtain rfl : k = n := by omega
      have hf := findIdx_end HN.out (by rw [HL.out]; exact Nat.le_refl _)
      have hv := HV.out
      rw [show makerO out name = none from hf] at hv
      have hv' : r = -1 := hv
      subst hv'
      clear hf hv HV HN
      go_wp2
      go_ret
      exact ⟨rfl, HB.out⟩
set_option maxRecDepth 100000 in
set_option maxHeartbeats 1000000 in
theorem maker_any (A : Option Addr) (n c : Nat) (out : List Gp) (R : List Row4) (name : ByteArray) (w : World) (h : GpRd w A n c out R) (hn : n ≤ 1000000) (ht : ∀ g ∈ out, g.tg.length ≤ 1000) :
    Calls Tryz.prog 15 #[.slice A n c, .string name] w fun e w' => e = .returned (.int .i64 (idxV (makerO out name))) ∧ Below w.heap.size w w' := by
  have hba : Below w.heap.size w (w.alloc (.cells #[.string name] 9)) := (Below.refl _ _).alloc (Nat.le_refl _) _
  have HC := Lib.hid (indexG_any w.heap.size A n c out R name _ (h.belowS hba) hn ht (by rw [World.cell?_alloc_at _ _ _ _ rfl]; rfl) (by simp))
  have HB := Lib.hid hba
  generalize hh : idxV (makerO out name) = bb at *
  clear hba h hh
  go_enter Tryz.func15, Tryz.ntmps15
  go_wp2_with fail
  refine HC.out.mono ?_
  rintro e w1 ⟨rfl, hb1⟩
  have HB1 := Lib.hid (HB.out.trans (hb1.mono HB.out.size))
  clear hb1
  go_wp2
  go_ret
  exact ⟨rfl, HB1.out⟩

/-- The walk's own variable in memory: rules, phony names and files that are read; the map of open names; the groups. -/
structure WkRd (w : World) (pw : Nat) (m : Mk) (l : List F) (vr vp vf vm vg : Value) (R : List Row3) : Prop where
  blk : Blk w pw tWk #[vr, vp, vf, vm, vg]
  rules : ∃ A c, vr = .slice A R.length c ∧ RdR w w.heap.size A R.length c R
  len : R.length = m.rules.length
  each : ∀ (i : Nat) (x : Row3) (u : Ru), R[i]? = some x → m.rules[i]? = some u → Sl w x.1 u.1 ∧ Sl w x.2.1 u.2.1 ∧ Sl w x.2.2 u.2.2
  phony : Sl w vp m.phony
  files : ∃ A c, vf = .slice A l.length c ∧ RdF w w.heap.size A l.length c l
theorem WkRd.belowS {w w' : World} {pw : Nat} {m : Mk} {l : List F} {vr vp vf vm vg : Value} {R : List Row3} (h : WkRd w pw m l vr vp vf vm vg R) (hb : Below w.heap.size w w') : WkRd w' pw m l vr vp vf vm vg R := by
  obtain ⟨A, c, e, hr⟩ := h.rules
  obtain ⟨A2, c2, e2, hr2⟩ := h.files
  exact ⟨(hb.block _ h.blk.lt).trans h.blk, ⟨A, c, e, hr.belowS hb⟩, h.len, fun i x u hx hu => by obtain ⟨a, b, c⟩ := h.each i x u hx hu; exact ⟨a.belowS hb, b.belowS hb, c.belowS hb⟩, h.phony.belowS hb, ⟨A2, c2, e2, hr2.belowS hb⟩⟩
set_option maxRecDepth 100000 in
set_option maxHeartbeats 1000000 in
theorem rule1_any (tg : List ByteArray) (a b c : Value) (X : Nat) (name : ByteArray) (w : World) (ha : Sl w a tg) (ht : tg.length ≤ 1000) (hx : w.cell? ⟨X, 0, none⟩ = some (.string name)) (hX : X < w.heap.size) :
    Calls Tryz.prog 130 #[.agg #[a, b, c], ptr X] w fun e w' => e = .returned (.bool (inT tg name)) ∧ Below w.heap.size w w' := by
  have hba : Below w.heap.size w (w.alloc (.cells #[a, b, c] tRu)) := (Below.refl _ _).alloc (Nat.le_refl _) _
  obtain ⟨At, ct, rfl, hr⟩ := ha.belowS hba
  have c0 : (w.alloc (.cells #[.slice At tg.length ct, b, c] tRu)).cell? ⟨w.heap.size, 0, none⟩ = some (.slice At tg.length ct) := by rw [World.cell?_alloc_at _ _ _ _ rfl]; rfl
  have cX : (w.alloc (.cells #[.slice At tg.length ct, b, c] tRu)).cell? ⟨X, 0, none⟩ = some (.string name) := by rw [World.cell?_alloc_lt _ _ _ hX]; exact hx
  have HB := Lib.hid hba
  have HC := Lib.hid (contains_any At tg.length ct tg name _ hr (by omega))
  generalize hh : inT tg name = bb at *
  clear hba hr ha hh
  go_enter Tryz.func130, Tryz.ntmps130
  go_wp2_with fail
  refine HC.out.mono ?_
  rintro e w1 ⟨rfl, rfl⟩
  go_wp2
  go_ret
  exact ⟨rfl, HB.out⟩
set_option maxRecDepth 100000 in
set_option maxHeartbeats 2000000 in
theorem indexR_any (X : Nat) (A : Option Addr) (c : Nat) (rules : List Ru) (R : List Row3) (name : ByteArray) (w : World) (h : RdR w w.heap.size A R.length c R) (hl : R.length = rules.length) (he : ∀ (i : Nat) (x : Row3) (u : Ru), R[i]? = some x → rules[i]? = some u → Sl w x.1 u.1)
    (hn : R.length ≤ 1000) (ht : ∀ r ∈ rules, r.1.length ≤ 1000) (hx : w.cell? ⟨X, 0, none⟩ = some (.string name)) (hX : X < w.heap.size) :
    Calls Tryz.prog 101 #[.slice A R.length c, rfF X] w fun e w' => e = .returned (.int .i64 (idxV (explO rules name))) ∧ Below w.heap.size w w' := by
  obtain ⟨r, hr⟩ : ∃ r, r = idxV (explO rules name) := ⟨_, rfl⟩
  rw [← hr]
  obtain ⟨n, hnn⟩ : ∃ n, n = R.length := ⟨_, rfl⟩
  rw [← hnn] at h hl hn ⊢
  have HH := Lib.hid h
  have HE := Lib.hid he
  have HT := Lib.hid ht
  have HX := Lib.hid hx
  have HV := Lib.hid hr
  have HL := Lib.hid hl
  have HRL := Lib.hid hnn
  clear h ht hx hr he hl hnn
  go_enter Tryz.func101, Tryz.ntmps101
  go_wp2
  go_loopw [8] (fun i wr => IxRel w rules (fun g => inT g.1 name) n i wr) (fun i _ => n - (intOf i).toNat)
  case atStart => exact ⟨0, Nat.zero_le _, rfl, by simp, Below.refl _ _⟩
  case round =>
    obtain ⟨k, hk, rfl, hno, hb⟩ := hrel
    have HN := Lib.hid hno
    have HB := Lib.hid hb
    have hsz := hb.size
    clear hno hb
    by_cases hlt : k < n
    · obtain ⟨x, hx⟩ : ∃ x, R[k]? = some x := ⟨_, List.getElem?_eq_getElem (by rw [← HRL.out]; exact hlt)⟩
      obtain ⟨g, hg⟩ : ∃ g, rules[k]? = some g := ⟨_, List.getElem?_eq_getElem (by rw [← HL.out]; exact hlt)⟩
      obtain ⟨b', off, rfl, _, c1, c2, c3⟩ := (HH.out.belowS HB.out).at_ hx
      have s1 := (HE.out k x g hx hg).belowS HB.out
      obtain ⟨x1, x2, x3⟩ := x
      dsimp only at c1 c2 c3 s1
      have hkz : (k : Int) < (n : Int) := by omega
      obtain ⟨q1, q2⟩ := findIdx_next HN.out hg
      have Q1 := Lib.hid q1
      have Q2 := Lib.hid q2
      have hc := (rule1_any g.1 x1 x2 x3 X name wr s1 (HT.out g (List.mem_of_getElem? hg)) ((HB.out.cell (p := ⟨X, 0, none⟩) hX).trans HX.out) (by omega))
      clear q1 q2 hx hg s1
      cases hb : inT g.1 name with
      | true =>
        rw [hb] at hc
        have HC := Lib.hid hc
        clear hc
        have hf := Q1.out hb
        have hv := HV.out
        rw [show explO rules name = some k from hf] at hv
        have hv' : r = (k : Int) := hv
        subst hv'
        clear hb hf hv HV Q1 Q2 HN
        go_wp2_with (go_at_call 130; refine HC.out.mono ?_; rintro e w2 ⟨rfl, hb2⟩; have HB2 := Lib.hid (HB.out.trans (hb2.mono hsz)); clear hb2)
        go_ret
        exact ⟨rfl, HB2.out⟩
      | false =>
        have HF := Lib.hid (Q2.out hb)
        rw [hb] at hc
        have HC := Lib.hid hc
        clear hb Q1 Q2 hc
        go_wp2_with (go_at_call 130; refine HC.out.mono ?_; rintro e w2 ⟨rfl, hb2⟩; have HB2 := Lib.hid (HB.out.trans (hb2.mono hsz)); clear hb2)
        go_roundw
        case rel => exact ⟨k + 1, by omega, by go_num, HF.out, HB2.out⟩
        case measure => simp [intOf]; omega
    · obtain rfl : k = n := by omega
      have hf := findIdx_end HN.out (by rw [← HL.out]; exact Nat.le_refl _)
      have hv := HV.out
      rw [show explO rules name = none from hf] at hv
      have hv' : r = -1 := hv
      subst hv'
      clear hf hv HV HN
      go_wp2
      go_ret
      exact ⟨rfl, HB.out⟩
set_option maxRecDepth 100000 in
set_option maxHeartbeats 1000000 in
theorem ruleFor_any (pw : Nat) (m : Mk) (l : List F) (vr vp vf vm vg : Value) (R : List Row3) (name : ByteArray) (w : World) (h : WkRd w pw m l vr vp vf vm vg R) (hn : m.rules.length ≤ 1000) (ht : ∀ r ∈ m.rules, r.1.length ≤ 1000) :
    Calls Tryz.prog 99 #[ptr pw, .string name] w fun e w' => e = .returned (.int .i64 (idxV (explO m.rules name))) ∧ Below w.heap.size w w' := by
  have hba : Below w.heap.size w (w.alloc (.cells #[.string name] 9)) := (Below.refl _ _).alloc (Nat.le_refl _) _
  have hM := h.belowS hba
  obtain ⟨A, c, rfl, hr⟩ := hM.rules
  have HC := Lib.hid (indexR_any w.heap.size A c m.rules R name _ hr hM.len (fun i x u hx hu => (hM.each i x u hx hu).1) (by rw [h.len]; exact hn) ht (by rw [World.cell?_alloc_at _ _ _ _ rfl]; rfl) (by simp))
  have HB := Lib.hid hba
  have c0 := hM.blk.cell 0
  generalize hh : idxV (explO m.rules name) = bb at *
  clear hba h hh hM hr
  go_enter Tryz.func99, Tryz.ntmps99
  go_wp2_with fail
  refine HC.out.mono ?_
  rintro e w1 ⟨rfl, hb1⟩
  have HB1 := Lib.hid (HB.out.trans (hb1.mono HB.out.size))
  clear hb1
  go_wp2
  go_ret
  exact ⟨rfl, HB1.out⟩
end Go.Proofs.YtlkpbpecgdphaaaGreatDoor
