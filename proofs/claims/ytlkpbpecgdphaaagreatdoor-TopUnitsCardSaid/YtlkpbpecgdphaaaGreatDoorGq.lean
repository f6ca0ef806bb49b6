/-
  WALKS: hammerpondref.MakerOf, hammerpondref.explicit.
-/
import Derived.Test.YtlkpbpecgdphaaaGreatDoorUp
import Derived.Test.YtlkpbpecgdphaaaGreatDoorShaped
namespace Go.Proofs.YtlkpbpecgdphaaaGreatDoor
open Go.RowKit

theorem replace_first (s y : ByteArray) : (⟨(Lib.replace s.data.toList [37] y.data.toList 1).toArray⟩ : ByteArray) = onceB s y := by
  by_cases hy : y.data.toList = [37]
  · have e : Lib.replace s.data.toList [37] y.data.toList 1 = s.data.toList := by
      unfold Lib.replace
      rw [hy, if_pos (by rfl)]
    rw [e]
    unfold onceB
    split
    · rename_i h
      rcases Lib.index_spec s.data.toList [37] with ⟨h1, _⟩ | ⟨i, h1, _, h3, _⟩
      · rw [cut_none h1] at h; cases h
      · rw [cut_at h1, hy]
        unfold Lib.occAt at h3
        rw [List.isPrefixOf_iff_prefix] at h3
        obtain ⟨t, ht⟩ := h3
        have e2 : s.data.toList.drop (i + [(37 : UInt8)].length) = t := by
          rw [← List.drop_drop, ← ht]; simp
        dsimp only
        rw [e2, ht, List.take_append_drop]
        rfl
    · rfl
  unfold Lib.replace onceB
  rw [if_neg (by simp; intro h; exact hy (by rw [← h]))]
  have hge := Lib.index_ge s.data.toList [37]
  by_cases h : Lib.index s.data.toList [37] = -1
  · rw [cut_none h]
    have hc : Lib.count s.data.toList [37] = 0 := by
      unfold Lib.count Lib.countFrom
      simp [h]
    have hn : Lib.replaceNum s.data.toList [37] 1 = 0 := by unfold Lib.replaceNum; rw [hc]; simp
    rw [hn]
    simp only [Lib.replaceK, Bool.false_eq_true, if_false]
  · obtain ⟨i, ei⟩ : ∃ i : Nat, Lib.index s.data.toList [37] = i := ⟨(Lib.index s.data.toList [37]).toNat, by omega⟩
    rw [cut_at ei]
    have hc : 1 ≤ Lib.count s.data.toList [37] := by
      unfold Lib.count Lib.countFrom
      have : (Lib.index s.data.toList [37] == -1) = false := by rw [beq_eq_false_iff_ne]; exact h
      rw [this]
      simp
    have hn : Lib.replaceNum s.data.toList [37] 1 = 1 := by unfold Lib.replaceNum; rw [if_neg (by omega)]; rfl
    rw [hn, Lib.replaceK_hit _ _ _ _ i ei]
    simp [Lib.replaceK, ba]
theorem replace1_any (s y : ByteArray) (w : World) (hs : s.size ≤ 1000000) (hy : y.size ≤ 1000000) (hm : MaxOk w) : Calls Tryz.prog 133 #[.string s, .string ⟨#[37]⟩, .string y, .int .i64 1] w fun e w' => e = .returned (.string (onceB s y)) ∧ Below w.heap.size w w' := by
  obtain ⟨m, hm⟩ := hm
  refine (Tryz.strings_Replace s ⟨#[37]⟩ y 1 m w (by omega) hm (by decide) ?_).mono ?_
  · have h1 : Lib.countB s ⟨#[37]⟩ ≤ s.size := by
      have : Lib.countB s ⟨#[37]⟩ = s.data.toList.count 37 := Lib.count_one 37 _
      rw [this]
      have := List.count_le_length (a := (37 : UInt8)) (l := s.data.toList)
      simpa using this
    have h2 : Lib.countB s ⟨#[37]⟩ * y.size ≤ 1000000 * 1000000 := Nat.mul_le_mul (by omega) hy
    omega
  · rintro e w' ⟨rfl, hb⟩
    exact ⟨by rw [← replace_first], hb⟩

structure FiRel (w : World) (nd : List ByteArray) (stem : ByteArray) (n : Nat) (v i : Value) (wr : World) : Prop where
  ex : ∃ (k : Nat), k ≤ n ∧ i = .int .i64 k ∧ wr.ownsRow w.heap.size 9 1 v k (tcells (fillR (nd.take k) stem)) ∧ Below w.heap.size w wr
theorem fillR_take {nd : List ByteArray} {stem x : ByteArray} {k : Nat} (h : nd[k]? = some x) : fillR (nd.take (k + 1)) stem = fillR (nd.take k) stem ++ [onceB x stem] := by
  unfold fillR
  rw [List.take_add_one, h]; simp
set_option maxHeartbeats 2000000 in
set_option maxRecDepth 100000 in
theorem filled_any (A : Option Addr) (n c : Nat) (nd : List ByteArray) (stem : ByteArray) (w : World) (h : RdS w w.heap.size A n c nd) (hn : n ≤ 1000) (hs : ∀ x ∈ nd, x.size ≤ 1000) (hy : stem.size ≤ 1000) (hm : MaxOk w) :
    Calls Tryz.prog 104 #[.slice A n c, .string stem] w fun e w' => ∃ v, e = .returned v ∧ w'.ownsRow w.heap.size 9 1 v n (tcells (fillR nd stem)) ∧ Below w.heap.size w w' := by
  obtain ⟨ti, hi, hz, hsz, hby⟩ := text_parts
  have HI := Lib.hid hi
  have HZ := Lib.hid hz
  have HS := Lib.hid hsz
  have HB := Lib.hid hby
  have HR := Lib.hid h
  have HSZ := Lib.hid hs
  have HM := Lib.hid hm
  have HL := Lib.hid h.1
  clear hi hz hsz hby h hs hm
  go_enter Tryz.func104, Tryz.ntmps104
  go_wp2
  go_loopw [5, 10] (fun v i wr => FiRel w nd stem n v i wr) (fun _ i _ => n - (intOf i).toNat)
  case atStart => exact ⟨0, Nat.zero_le _, rfl, World.ownsRow_nil _ _ _ _, Below.refl _ _⟩
  case round =>
    obtain ⟨k, hk, rfl, hown, hb⟩ := hrel.ex
    clear hrel
    have HO := Lib.hid hown
    have HBW := Lib.hid hb
    clear hown hb
    by_cases hlt : k < n
    · have hkz : (k : Int) < (n : Int) := by omega
      obtain ⟨x, hx⟩ : ∃ x, nd[k]? = some x := ⟨_, List.getElem?_eq_getElem (by rw [HL.out]; exact hlt)⟩
      have HR2 := Lib.hid (HR.out.belowS HBW.out)
      obtain ⟨b', off, rfl, _, hc1⟩ := HR2.out.at_ hx
      have hxs : x.size ≤ 1000 := HSZ.out x (List.mem_of_getElem? hx)
      have HT := Lib.hid (fillR_take (stem := stem) hx)
      clear hx
      go_wp2_with fail
      refine (replace1_any x stem wr (by omega) (by omega) (HM.out.below HBW.out)).mono ?_
      rintro e w1 ⟨rfl, hb1⟩
      have HB1 := Lib.hid (HBW.out.trans (hb1.mono HBW.out.size))
      have HO1 := Lib.hid ((HO.out.kept (grown_of_below hb1) (by cases (_ : Value).ownBlock <;> simp)).alloc (.cells #[.string (onceB x stem)] 9))
      have H1 := Lib.hid (RdS_one' w1 (onceB x stem) 9)
      have hb2 : Below w.heap.size w (w1.alloc (.cells #[.string (onceB x stem)] 9)) := HB1.out.alloc HB1.out.size _
      have hs1 := hb2.size
      go_wp2_with (at_builtin; refine wpList_append_texts _ rfl (.tmp 14) (.tmp 18) _ rfl w.heap.size 9 ti _ 16 Tryz.underlying27 HI.out HZ.out HS.out HB.out rfl _ _ _ rfl HO1.out _ _ 1 1 [onceB x stem] rfl H1.out ?_ ?_ ?_ ?_)
      · unfold maxLen; omega
      · omega
      · simpa using hs1
      intro v2 w2 hown2 hg2
      have hb3 : Below w.heap.size w w2 := hb2.grown hg2 hs1 (fun g' hg' => (HO1.out.lt g' hg').1)
      have HV := Lib.hid hown2
      clear hown2 HO1 H1 hs1
      go_wp2
      go_roundw
      case rel => exact ⟨k + 1, by omega, by go_num, by rw [HT.out]; exact HV.out, hb3⟩
      case measure => simp [intOf]; omega
    · obtain rfl : k = n := by omega
      have HF := Lib.hid (show nd.take k = nd from List.take_of_length_le (by rw [HL.out]; exact Nat.le_refl _))
      go_wp2
      go_ret
      exact ⟨_, rfl, by have := HO.out; rwa [HF.out] at this, HBW.out⟩
end Go.Proofs.YtlkpbpecgdphaaaGreatDoor
namespace Go.Proofs.YtlkpbpecgdphaaaGreatDoor
open Go.RowKit

def GxRel {α : Type} (l : List α) (p : α → Bool) (n : Nat) (i : Value) : Prop := ∃ k : Nat, k ≤ n ∧ i = .int .i64 k ∧ l.findIdx? p = ((l.drop k).findIdx? p).map (· + k)
set_option maxHeartbeats 1600000 in
set_option maxRecDepth 100000 in
theorem makerOf_any (A : Option Addr) (n c : Nat) (out : List Gp) (R : List Row4) (name : ByteArray) (w : World) (h : GpRd w A n c out R) (ht : ∀ g ∈ out, g.tg.length ≤ 1000) :
    Calls Tryz.prog 16 #[.slice A n c, .string name] w fun e w' => e = .returned (.int .i64 (idxV (makerO out name))) ∧ w = w' := by
  obtain ⟨r, hr⟩ : ∃ r, r = idxV (makerO out name) := ⟨_, rfl⟩
  rw [← hr]
  have hnc := h.rows.2.1
  have hm := h.rows.2.2.1
  unfold maxLen at hm
  have HR := Lib.hid h.rows
  have HE := Lib.hid h.each
  have HT := Lib.hid ht
  have HL := Lib.hid h.len
  have HRL := Lib.hid h.rows.1
  have HV := Lib.hid hr
  clear h ht hr
  go_enter Tryz.func16, Tryz.ntmps16
  go_wp2
  go_loop [5] (fun i => GxRel out (fun g => inT g.tg name) n i) (fun i => n - (intOf i).toNat)
  case atStart => exact ⟨0, Nat.zero_le _, rfl, by simp⟩
  case round =>
    obtain ⟨k, hk, rfl, hno⟩ := hrel
    have HN := Lib.hid hno
    clear hno
    by_cases hlt : k < n
    · obtain ⟨x, hx⟩ : ∃ x, R[k]? = some x := ⟨_, List.getElem?_eq_getElem (by rw [HRL.out]; exact hlt)⟩
      obtain ⟨g, hg⟩ : ∃ g, out[k]? = some g := ⟨_, List.getElem?_eq_getElem (by rw [HL.out]; exact hlt)⟩
      obtain ⟨b', off, rfl, _, hc1, -⟩ := HR.out.at_ hx
      obtain ⟨⟨At, ct, et, rt⟩, -⟩ := HE.out k x g hx hg
      rw [et] at hc1
      have hkz : (k : Int) < (n : Int) := by omega
      have hgl := HT.out g (List.mem_of_getElem? hg)
      obtain ⟨q1, q2⟩ := findIdx_next HN.out hg
      have Q1 := Lib.hid q1
      have Q2 := Lib.hid q2
      have HI := Lib.hid (in_any At g.tg.length ct g.tg name w rt (by omega))
      clear q1 q2 hx hg et rt
      go_wp2_with fail
      refine HI.out.mono ?_
      rintro e w1 ⟨rfl, rfl⟩
      cases hb : inT g.tg name with
      | true =>
        have hf := Q1.out hb
        have hv := HV.out
        rw [show makerO out name = some k from hf] at hv
        have hv' : r = (k : Int) := hv
        subst hv'
        clear hb hf hv HV HI Q1 Q2 HN
        go_wp2
        go_ret
        exact ⟨rfl, rfl⟩
      | false =>
        have HF := Lib.hid (Q2.out hb)
        clear hb HI Q1 Q2
        go_wp2
        go_round
        case rel => exact ⟨k + 1, by omega, by go_num, HF.out⟩
        case measure => simp [intOf]; omega
    · obtain rfl : k = n := by omega
      have hf := findIdx_end HN.out (by rw [HL.out]; exact Nat.le_refl _)
      have hv := HV.out
      rw [show makerO out name = none from hf] at hv
      have hv' : r = -1 := hv
      subst hv'
      clear hf hv HV HN
      go_wp2
      go_ret
      exact ⟨rfl, rfl⟩
set_option maxHeartbeats 1600000 in
set_option maxRecDepth 100000 in
theorem explicit_any (m : Mk) (vv vr vp : Value) (R : List Row3) (name : ByteArray) (w : World) (h : MkRd w m vv vr vp R) (hn : m.rules.length ≤ 1000) (ht : ∀ r ∈ m.rules, r.1.length ≤ 1000) :
    Calls Tryz.prog 105 #[.agg #[vv, vr, vp], .string name] w fun e w' => e = .returned (.int .i64 (idxV (explO m.rules name))) ∧ Below w.heap.size w w' := by
  obtain ⟨r, hr⟩ : ∃ r, r = idxV (explO m.rules name) := ⟨_, rfl⟩
  rw [← hr]
  have hb0 : Below w.heap.size w (w.alloc (.cells #[vv, vr, vp] 29)) := (Below.refl _ _).alloc (Nat.le_refl _) _
  have hM := h.belowS hb0
  obtain ⟨Av, cv, rfl, -⟩ := hM.vars
  obtain ⟨Ar, cr, rfl, hrr⟩ := hM.rules
  obtain ⟨Ap, cp, rfl, -⟩ := hM.phony
  have z1 : (w.alloc (.cells #[.slice Av m.vars.length cv, .slice Ar R.length cr, .slice Ap m.phony.length cp] 29)).cell? ⟨w.heap.size, 1, none⟩ = some (.slice Ar R.length cr) := by rw [World.cell?_alloc_at _ _ _ _ rfl]; rfl
  have Z1 := Lib.hid z1
  have HR := Lib.hid hrr
  have HE := Lib.hid hM.each
  have HT := Lib.hid ht
  have HL := Lib.hid hM.len
  have HV := Lib.hid hr
  have HB := Lib.hid hb0
  have hrn : R.length ≤ 1000 := by rw [hM.len]; exact hn
  clear h hM hrr ht hr hb0 z1
  go_enter Tryz.func105, Tryz.ntmps105
  go_wp2_with fail
  generalize w.alloc (.cells #[.slice Av m.vars.length cv, .slice Ar R.length cr, .slice Ap m.phony.length cp] 29) = w1 at *
  have z1 := Z1.out
  go_loop [5] (fun i => GxRel m.rules (fun u => inT u.1 name) R.length i) (fun i => R.length - (intOf i).toNat)
  case atStart => exact ⟨0, Nat.zero_le _, rfl, by simp⟩
  case round =>
    obtain ⟨k, hk, rfl, hno⟩ := hrel
    have HN := Lib.hid hno
    clear hno
    by_cases hlt : k < R.length
    · obtain ⟨x, hx⟩ : ∃ x, R[k]? = some x := ⟨_, List.getElem?_eq_getElem hlt⟩
      obtain ⟨g, hg⟩ : ∃ g, m.rules[k]? = some g := ⟨_, List.getElem?_eq_getElem (by rw [← HL.out]; exact hlt)⟩
      obtain ⟨b', off, rfl, _, hc1, -⟩ := HR.out.at_ hx
      obtain ⟨⟨At, ct, et, rt⟩, -⟩ := HE.out k x g hx hg
      rw [et] at hc1
      have hkz : (k : Int) < (R.length : Int) := by omega
      have hgl := HT.out g (List.mem_of_getElem? hg)
      obtain ⟨q1, q2⟩ := findIdx_next HN.out hg
      have Q1 := Lib.hid q1
      have Q2 := Lib.hid q2
      have HI := Lib.hid (in_any At g.1.length ct g.1 name w1 rt (by omega))
      clear q1 q2 hx hg et rt
      go_wp2_with fail
      refine HI.out.mono ?_
      rintro e w2 ⟨rfl, rfl⟩
      cases hb : inT g.1 name with
      | true =>
        have hf := Q1.out hb
        have hv := HV.out
        rw [show explO m.rules name = some k from hf] at hv
        have hv' : r = (k : Int) := hv
        subst hv'
        clear hb hf hv HV HI Q1 Q2 HN
        go_wp2
        go_ret
        exact ⟨rfl, HB.out⟩
      | false =>
        have HF := Lib.hid (Q2.out hb)
        clear hb HI Q1 Q2
        go_wp2
        go_round
        case rel => exact ⟨k + 1, by omega, by go_num, HF.out⟩
        case measure => simp [intOf]; omega
    · obtain rfl : k = R.length := by omega
      have hf := findIdx_end HN.out (by rw [← HL.out]; exact Nat.le_refl _)
      have hv := HV.out
      rw [show explO m.rules name = none from hf] at hv
      have hv' : r = -1 := hv
      subst hv'
      clear hf hv HV HN
      go_wp2
      go_ret
      exact ⟨rfl, HB.out⟩
end Go.Proofs.YtlkpbpecgdphaaaGreatDoor
