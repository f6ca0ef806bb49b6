/-
  WALK: makefile.addLine: what a line makes of the description in memory.
-/
import Derived.Test.YtpolnompiinanaaDoorAddRule
namespace Go.Proofs.YtpolnompiinanaaDoor
open Go.RowKit

theorem noteB_nil {s : ByteArray} (h : s.size = 0) : noteB s = true := by
  have : s.data.toList = [] := List.eq_nil_of_length_eq_zero (by simpa using h)
  unfold noteB
  rw [this]
theorem noteB_at {s : ByteArray} (h : 0 < s.size) : noteB s = decide (s[0] = 35) := by
  unfold noteB
  have e : s.data.toList = s[0] :: s.data.toList.drop 1 := by
    have := List.drop_eq_getElem_cons (l := s.data.toList) (i := 0) (by simpa using h)
    rw [List.drop_zero] at this
    exact this
  rw [e]
set_option maxHeartbeats 2000000 in
set_option maxRecDepth 100000 in
theorem addLine_any (B g : Nat) (m : Mk) (s : ByteArray) (w : World) (h : MkIn w B g m) (hB : B ≤ w.heap.size) (hG : GB g B) (hmx : MaxOk w) (hsn : Sane m 100000) (hs : s.size ≤ 600) :
    Calls Tryd.prog 48 #[.pointer (some ⟨g, 0, none⟩), .string s] w (AdPost B g (lineR m s) w) := by
  obtain ⟨r, hr⟩ : ∃ r, r = lineR m s := ⟨_, rfl⟩
  rw [← hr]
  unfold lineR at hr
  have HR := Lib.hid hr
  have H0 := Lib.hid h
  have HMX := Lib.hid hmx
  have HSN := Lib.hid hsn
  have HG := Lib.hid hG
  clear hr h hmx hsn hG
  have hdone : noteB s = true → r = (0, m) := fun hn => by have := HR.out; rw [if_pos hn] at this; exact this
  have HD := Lib.hid hdone
  clear hdone
  by_cases h0 : s.size = 0
  · have HN := Lib.hid (HD.out (noteB_nil h0))
    have t1 : (s.toList == []) = true := by
      have : s.data.toList = [] := List.eq_nil_of_length_eq_zero (by simpa using h0)
      rw [Lib.toList_data, this]
      rfl
    clear h0
    go_enter Tryd.func48, Tryd.ntmps48
    go_wp2
    go_ret
    exact ⟨by rw [HN.out]; rfl, by rw [HN.out]; exact H0.out, Fr.refl _ _ _⟩
  have hpos : 0 < s.size := by omega
  have t1 : (s.toList == []) = false := by
    rw [beq_eq_false_iff_ne]
    intro e
    apply h0
    have := congrArg List.length e
    rw [Lib.toList_data] at this
    simpa using this
  have hpz : (0 : Int) < (s.size : Int) := by omega
  cases hq : ((s[0].toNat : Int) == 35) with
  | true =>
    have hb : s[0] = 35 := by
      have h' : (s[0].toNat : Int) = 35 := by simpa using hq
      exact UInt8.toNat_inj.1 (by have : (35 : UInt8).toNat = 35 := rfl; omega)
    have HN := Lib.hid (HD.out (by rw [noteB_at hpos, hb]; rfl))
    clear hb
    go_enter Tryd.func48, Tryd.ntmps48
    go_wp2
    go_ret
    exact ⟨by rw [HN.out]; rfl, by rw [HN.out]; exact H0.out, Fr.refl _ _ _⟩
  | false =>
    have hnb : noteB s = false := by
      rw [noteB_at hpos]
      apply decide_eq_false
      intro e
      rw [e] at hq
      simp at hq
    have hx := HR.out
    rw [if_neg (by rw [hnb]; simp)] at hx
    have HX := Lib.hid hx
    clear hx HR HD hnb
    go_enter Tryd.func48, Tryd.ntmps48
    go_wp2_with fail
    refine (cutPrefix_any s ⟨#[9]⟩ w (by omega)).mono ?_
    rintro e w' ⟨rfl, rfl⟩
    have e9 : (⟨#[9]⟩ : ByteArray).data.toList = [9] := rfl
    rw [e9]
    cases h9 : Lib.hasPrefix s.data.toList [9] with
    | true =>
      have hx := HX.out
      rw [if_pos h9] at hx
      have HY := Lib.hid hx
      clear hx HX
      have e1 : (if true = true then s.extract (⟨#[9]⟩ : ByteArray).size s.size else s) = s.extract 1 s.size := rfl
      rw [e1]
      have hz : (s.extract 1 s.size).size ≤ 1000 := by rw [ByteArray.size_extract]; omega
      go_wp2_with fail
      generalize s.extract 1 s.size = q at *
      refine (addCommand_any B g m q w H0.out hB HG.out HMX.out HSN.out hz).mono ?_
      rw [← HY.out]
      rintro e w2 ⟨rfl, hm2, hf2⟩
      have HM := Lib.hid hm2
      have HF := Lib.hid hf2
      clear hm2 hf2
      go_wp2
      go_ret
      exact ⟨rfl, HM.out, HF.out⟩
    | false =>
      have hx := HX.out
      rw [if_neg (by rw [h9]; simp)] at hx
      have HY := Lib.hid hx
      clear hx HX
      have e1 : (if false = true then s.extract (⟨#[9]⟩ : ByteArray).size s.size else s) = s := rfl
      rw [e1]
      clear e1 e9
      go_wp2_with fail
      refine (cutPrefix_any s ⟨#[112, 104, 111, 110, 121, 32]⟩ w (by omega)).mono ?_
      rintro e w' ⟨rfl, rfl⟩
      have e9 : (⟨#[112, 104, 111, 110, 121, 32]⟩ : ByteArray).data.toList = [112, 104, 111, 110, 121, 32] := rfl
      rw [e9]
      cases h6 : Lib.hasPrefix s.data.toList [112, 104, 111, 110, 121, 32] with
      | true =>
        have hx := HY.out
        rw [if_pos h6] at hx
        have HZ := Lib.hid hx
        clear hx HY
        have e1 : (if true = true then s.extract (⟨#[112, 104, 111, 110, 121, 32]⟩ : ByteArray).size s.size else s) = s.extract 6 s.size := rfl
        rw [e1]
        have hz : (s.extract 6 s.size).size ≤ 1000 := by rw [ByteArray.size_extract]; omega
        go_wp2_with fail
        generalize s.extract 6 s.size = q at *
        refine (addPhony_any B g m q w H0.out hB (Nat.le_trans HSN.out.phony (by omega)) (by omega)).mono ?_
        rw [← HZ.out]
        rintro e w2 ⟨rfl, hm2, hf2⟩
        have HM := Lib.hid hm2
        have HF := Lib.hid hf2
        clear hm2 hf2
        go_wp2
        go_ret
        exact ⟨rfl, HM.out, HF.out⟩
      | false =>
        have hx := HY.out
        rw [if_neg (by rw [h6]; simp)] at hx
        have HZ := Lib.hid hx
        clear hx HY
        have e1 : (if false = true then s.extract (⟨#[112, 104, 111, 110, 121, 32]⟩ : ByteArray).size s.size else s) = s := rfl
        rw [e1]
        clear e1 e9
        go_wp2_with fail
        refine (cut_any s ⟨#[32, 61, 32]⟩ [32, 61, 32] rfl w (by omega) HMX.out).mono ?_
        rintro e w2 ⟨j2, rfl, rfl⟩
        have hb2 := below_drewN w j2
        have HM2 := Lib.hid (H0.out.below hb2)
        have HF2 := Lib.hid (Fr.of_below (g := g) hb2 hB)
        have HX2 := Lib.hid (HMX.out.below hb2)
        have hB2 : B ≤ (w.drewN j2).heap.size := by have := hb2.size; omega
        clear hb2
        generalize w.drewN j2 = w2 at *
        unfold cutB
        have hcl := cut_fst_len s.data.toList [32, 61, 32]
        have hlen : s.data.toList.length = s.size := by simp
        rw [hlen] at hcl
        revert HZ hcl
        generalize Lib.cut s.data.toList [32, 61, 32] = cc
        obtain ⟨bf, af, fd⟩ := cc
        intro HZ hcl
        dsimp only at HZ hcl ⊢
        cases fd with
        | true =>
          have hx := HZ.out
          rw [if_pos (by trivial)] at hx
          have HW := Lib.hid hx
          clear hx HZ
          have hbz : (ba bf).size ≤ 600 := by rw [ba_size]; omega
          go_wp2_with fail
          refine (addVar_any B g m (ba bf) (ba af) w2 HM2.out hB2 (Nat.le_trans HSN.out.vars (by omega)) (by omega)).mono ?_
          rw [← HW.out]
          rintro e w3 ⟨rfl, hm3, hf3⟩
          have HM := Lib.hid hm3
          have HF := Lib.hid (HF2.out.trans hf3)
          clear hm3 hf3
          go_wp2
          go_ret
          exact ⟨rfl, HM.out, HF.out⟩
        | false =>
          have hx := HZ.out
          rw [if_neg (by simp)] at hx
          have HW := Lib.hid hx
          clear hx HZ
          go_wp2_with fail
          refine (addRule_any B g m s w2 HM2.out hB2 HG.out HX2.out HSN.out (by omega)).mono ?_
          rw [← HW.out]
          rintro e w3 ⟨rfl, hm3, hf3⟩
          have HM := Lib.hid hm3
          have HF := Lib.hid (HF2.out.trans hf3)
          clear hm3 hf3
          go_wp2
          go_ret
          exact ⟨rfl, HM.out, HF.out⟩
end Go.Proofs.YtpolnompiinanaaDoor
