/-
  THE WALK OF hammerpondlaw.ExpandSays: for all variables, texts, patterns and lists of names the call returns true, and nothing that was there has turned.
-/
import Derived.Test.YtocodapegeajoaaExpText
import Derived.Test.YtocodapegeajoaaExpanded
import Derived.Test.YtocodapegeajoaaRefStem
import Derived.Test.YtocodapegeajoaaRefAuto
import Derived.Test.YtocodapegeajoaaErr
namespace Go.Proofs.Ytocodapegeajoaa
open Go.RowKit

theorem exp_Axy : expR [(⟨#[65]⟩, ⟨#[120]⟩)] 5 [36, 40, 65, 41, 121] = (0, [120, 121]) := by decide +kernel
theorem autoL_len (v0 v1 v2 v3 : ByteArray) (M : Nat) (h0 : v0.size ≤ M) (h1 : v1.size ≤ M) (h2 : v2.size ≤ M) (h3 : v3.size ≤ M) : ∀ s : Bs, (autoL v0 v1 v2 v3 s).length ≤ s.length * (M + 1)
  | [] => by simp [autoL]
  | [b] => by simp [autoL]
  | b :: c :: r => by
    have ih1 := autoL_len v0 v1 v2 v3 M h0 h1 h2 h3 r
    have ih2 := autoL_len v0 v1 v2 v3 M h0 h1 h2 h3 (c :: r)
    simp only [autoL]
    split
    · rename_i v hv
      have hvs : v.data.toList.length ≤ M := by
        have e : ∀ x : ByteArray, x.data.toList.length = x.size := fun x => by simp
        rw [e]
        split at hv
        · unfold autoV at hv
          split at hv
          · obtain rfl := Option.some.inj hv; exact h0
          · split at hv
            · obtain rfl := Option.some.inj hv; exact h1
            · split at hv
              · obtain rfl := Option.some.inj hv; exact h2
              · split at hv
                · obtain rfl := Option.some.inj hv; exact h3
                · cases hv
        · cases hv
      rw [List.length_append]
      simp only [List.length_cons, Nat.add_mul] at *
      omega
    · simp only [List.length_cons, Nat.add_mul] at *
      omega
theorem joinB_len (M : Nat) : ∀ l : List ByteArray, (∀ x ∈ l, x.size ≤ M) → (joinB l).length ≤ l.length * (M + 1) := by
  intro l
  have key : ∀ m, m ≤ l.length → (∀ x ∈ l, x.size ≤ M) → (joinB (l.take m)).length ≤ m * (M + 1) := by
    intro m
    induction m with
    | zero => intro _ _; simp [joinB, Lib.join_nil]
    | succ m ih =>
      intro hm hx
      have h1 := ih (by omega) hx
      have hg : l[m]? = some (l[m]'(by omega)) := List.getElem?_eq_getElem (by omega)
      have h2 := hx (l[m]'(by omega)) (List.getElem_mem _)
      have e : ∀ x : ByteArray, x.data.toList.length = x.size := fun x => by simp
      rw [joinB_step hg]
      split
      · rw [e, Nat.add_mul]; omega
      · rw [List.length_append, List.length_cons, e, Nat.add_mul]; omega
  intro hx
  have := key l.length (Nat.le_refl _) hx
  rwa [List.take_length] at this
theorem RdF_oneV (w : World) (x t : ByteArray) (e : TypeId) : RdF (w.alloc (.cells #[.string x, .string t] e)) (w.heap.size + 1) (some ⟨w.heap.size, 0, none⟩) 1 1 [(x, t)] := by
  refine ⟨rfl, Nat.le_refl _, by unfold maxLen; omega, fun _ => ⟨w.heap.size, 0, rfl, by omega, fun j u hu => ?_⟩⟩
  rw [World.cell?_alloc_at _ _ _ _ rfl]
  match j with
  | 0 => simpa [fcells] using hu
  | 1 => simpa [fcells] using hu
  | j + 2 => simp [fcells] at hu
def VsRel (l : List F) (i : Value) : Prop := ∃ k : Nat, k ≤ l.length ∧ i = .int .i64 k ∧ ∀ j f, j < k → l[j]? = some f → f.2.size ≤ 60

set_option maxHeartbeats 1000000 in
set_option maxRecDepth 100000 in
theorem expands_any (w : World) (hm : MaxOk w) : Calls Try.prog 32 #[] w fun e w' => e = .returned (.bool true) ∧ Below w.heap.size w w' := by
  have HM := Lib.hid hm
  clear hm
  go_enter Try.func32, Try.ntmps32
  go_wp2_with fail
  have hb1 : Below w.heap.size w (w.alloc (.cells #[.string ⟨#[65]⟩, .string ⟨#[120]⟩] 60)) := (Below.refl _ _).alloc (Nat.le_refl _) _
  have hr1 : RdF (w.alloc (.cells #[.string ⟨#[65]⟩, .string ⟨#[120]⟩] 60)) (w.alloc (.cells #[.string ⟨#[65]⟩, .string ⟨#[120]⟩] 60)).heap.size (some ⟨w.heap.size, 0, none⟩) 1 1 [(⟨#[65]⟩, ⟨#[120]⟩)] := by
    have := RdF_oneV w ⟨#[65]⟩ ⟨#[120]⟩ 60
    rwa [show w.heap.size + 1 = (w.alloc (.cells #[.string ⟨#[65]⟩, .string ⟨#[120]⟩] 60)).heap.size by simp] at this
  have HM1 := Lib.hid (HM.out.below hb1)
  have HR1 := Lib.hid hr1
  have HB1 := Lib.hid hb1
  clear hb1 hr1
  generalize w.alloc (.cells #[.string ⟨#[65]⟩, .string ⟨#[120]⟩] 60) = w1 at *
  refine (expText_any (some ⟨w.heap.size, 0, none⟩) 1 1 [(⟨#[65]⟩, ⟨#[120]⟩)] ⟨#[36, 40, 65, 41, 121]⟩ w1 HR1.out (by intro v hv; simp at hv; subst hv; show 1 ≤ 1000; omega) (by omega) (by decide) HM1.out).mono ?_
  rintro e w2 ⟨rfl, hb2⟩
  have HB2 := Lib.hid (HB1.out.trans (hb2.mono HB1.out.size))
  clear hb2
  rw [show expR [(⟨#[65]⟩, ⟨#[120]⟩)] 5 (⟨#[36, 40, 65, 41, 121]⟩ : ByteArray).data.toList = (0, [120, 121]) from exp_Axy]
  have e0 : errV ((((0 : Nat), [120, 121]) : Nat × Bs).1 : Int) = .nilIface := rfl
  rw [e0]
  have e1 : ba (((0 : Nat), [120, 121]) : Nat × Bs).2 = ⟨#[120, 121]⟩ := rfl
  rw [e1]
  clear e0 e1
  go_wp2_with (go_at_call 15; refine (same_nil _).mono ?_; rintro e w' ⟨rfl, rfl⟩)
  go_ret
  exact ⟨rfl, HB2.out⟩

set_option maxHeartbeats 4000000 in
set_option maxRecDepth 100000 in
theorem expandSays_any (A At An : Option Addr) (n c nt ct nn cn : Nat) (l : List F) (lt ln : List ByteArray) (s pt nm st : ByteArray) (w : World) (h : RdF w w.heap.size A n c l) (ht : RdS w w.heap.size At nt ct lt) (hn : RdS w w.heap.size An nn cn ln)
    (hz1 : s.size ≤ 9223372036854775807) (hz2 : pt.size ≤ 9223372036854775807) (hz3 : nm.size ≤ 9223372036854775807) (hz4 : st.size ≤ 9223372036854775807) (hm : MaxOk w) :
    Calls Try.prog 6 #[.slice A n c, .string s, .string pt, .string nm, .string st, .slice At nt ct, .slice An nn cn] w fun e w' => e = .returned (.bool true) ∧ Below w.heap.size w w' := by
  have HL0 := Lib.hid h.1
  have hcm := h.2.2.1
  have hnc := h.2.1
  have hcm2 := ht.2.2.1
  have hnc2 := ht.2.1
  have hcm3 := hn.2.2.1
  have hnc3 := hn.2.1
  unfold maxLen at hcm hcm2 hcm3
  have HLT := Lib.hid ht.1
  have HLN := Lib.hid hn.1
  have HR := Lib.hid h
  have HT := Lib.hid ht
  have HN := Lib.hid hn
  have HM := Lib.hid hm
  clear hm h ht hn
  go_enter Try.func6, Try.ntmps6
  go_wp2_with fail
  refine (expands_any w HM.out).mono ?_
  rintro e w1 ⟨rfl, hb1⟩
  have HB1 := Lib.hid hb1
  have HM1 := Lib.hid (HM.out.below hb1)
  have HR1 := Lib.hid (HR.out.belowS hb1)
  have HT1 := Lib.hid (HT.out.belowS hb1)
  have HN1 := Lib.hid (HN.out.belowS hb1)
  clear hb1 HM HR HT HN
  by_cases q1 : 10 < n
  · have t : (10 : Int) < (n : Int) := by omega
    go_wp2
    go_ret
    exact ⟨rfl, HB1.out⟩
  have d1 : decide ((10 : Int) < (n : Int)) = false := decide_eq_false (by omega)
  by_cases q2 : 700 < s.size
  · have t : (700 : Int) < (s.size : Int) := by omega
    go_wp2
    go_ret
    exact ⟨rfl, HB1.out⟩
  have d2 : decide ((700 : Int) < (s.size : Int)) = false := decide_eq_false (by omega)
  by_cases q3 : 30 < pt.size
  · have t : (30 : Int) < (pt.size : Int) := by omega
    go_wp2
    go_ret
    exact ⟨rfl, HB1.out⟩
  have d3 : decide ((30 : Int) < (pt.size : Int)) = false := decide_eq_false (by omega)
  by_cases q4 : 30 < nm.size
  · have t : (30 : Int) < (nm.size : Int) := by omega
    go_wp2
    go_ret
    exact ⟨rfl, HB1.out⟩
  have d4 : decide ((30 : Int) < (nm.size : Int)) = false := decide_eq_false (by omega)
  by_cases q5 : 30 < st.size
  · have t : (30 : Int) < (st.size : Int) := by omega
    go_wp2
    go_ret
    exact ⟨rfl, HB1.out⟩
  have d5 : decide ((30 : Int) < (st.size : Int)) = false := decide_eq_false (by omega)
  go_wp2_with fail
  refine (lightTexts_any At nt ct lt 4 20 w1 HT1.out (by omega) (by omega)).mono ?_
  rintro e w1' ⟨b1, rfl, hs1, rfl⟩
  cases b1 with
  | false =>
    go_wp2
    go_ret
    exact ⟨rfl, HB1.out⟩
  | true =>
  have HS1 := Lib.hid (hs1 rfl)
  clear hs1
  go_wp2_with fail
  refine (lightTexts_any An nn cn ln 5 20 w1 HN1.out (by omega) (by omega)).mono ?_
  rintro e w1' ⟨b2, rfl, hs2, rfl⟩
  cases b2 with
  | false =>
    go_wp2
    go_ret
    exact ⟨rfl, HB1.out⟩
  | true =>
  have HS2 := Lib.hid (hs2 rfl)
  clear hs2
  go_wp2
  go_loop [16] (fun i => VsRel l i) (fun i => n - (intOf i).toNat)
  case atStart => exact ⟨0, Nat.zero_le _, rfl, fun j g h => by omega⟩
  case round =>
    obtain ⟨k, hk, rfl, hno⟩ := hrel
    have hkn : k ≤ n := by rw [← HL0.out]; exact hk
    clear hk
    have HNo := Lib.hid hno
    clear hno
    by_cases hlt : k < n
    · obtain ⟨f, hf⟩ : ∃ f, l[k]? = some f := ⟨_, List.getElem?_eq_getElem (by rw [HL0.out]; exact hlt)⟩
      obtain ⟨b', off, rfl, _, hc1, hc2⟩ := HR1.out.at_ hf
      have hkz : (k : Int) < (n : Int) := by omega
      have HF := Lib.hid hf
      clear hf
      by_cases hq2 : 10 < f.1.size
      · have u2 : (10 : Int) < (f.1.size : Int) := by omega
        go_wp2
        go_ret
        exact ⟨rfl, HB1.out⟩
      have u2 : decide ((10 : Int) < (f.1.size : Int)) = false := decide_eq_false (by omega)
      by_cases hq1 : 60 < f.2.size
      · have u1 : (60 : Int) < (f.2.size : Int) := by omega
        go_wp2
        go_ret
        exact ⟨rfl, HB1.out⟩
      have u1 : decide ((60 : Int) < (f.2.size : Int)) = false := decide_eq_false (by omega)
      go_wp2
      go_round
      case rel =>
        refine ⟨k + 1, by rw [HL0.out]; omega, by go_num, fun j g hj hg => ?_⟩
        rcases Nat.lt_or_ge j k with h1 | h1
        · exact HNo.out j g h1 hg
        · obtain rfl : j = k := by omega
          have e1 := HF.out
          rw [e1] at hg
          injection hg with hg
          subst hg
          omega
      case measure => simp [intOf]; omega
    · obtain rfl : k = n := by omega
      have HV := Lib.hid (show ∀ v ∈ l, v.2.size ≤ 1000 from fun v hv => by
        obtain ⟨j, hj, e⟩ := List.mem_iff_getElem.1 hv
        have := HNo.out j v (by rw [← HL0.out]; exact hj) (by rw [List.getElem?_eq_getElem hj, e])
        omega)
      clear HNo
      go_wp2_with fail
      refine (expText_any A k c l s w1 HR1.out HV.out (by omega) (by omega) HM1.out).mono ?_
      rintro e w2 ⟨rfl, hb2⟩
      have HB2 := Lib.hid (HB1.out.trans (hb2.mono HB1.out.size))
      have HM2 := Lib.hid (HM1.out.below hb2)
      have HR2 := Lib.hid (HR1.out.belowS hb2)
      have HT2 := Lib.hid (HT1.out.belowS hb2)
      have HN2 := Lib.hid (HN1.out.belowS hb2)
      clear hb2 HM1 HR1 HT1 HN1 HB1
      have HEX := Lib.hid (rexp_any l HV.out A k c s w2 HR2.out (by omega) (by omega))
      obtain ⟨r, hr⟩ : ∃ r, r = expR l 5 s.data.toList := ⟨_, rfl⟩
      rw [← hr] at HEX ⊢
      clear hr
      go_wp2_with fail
      refine HEX.out.mono ?_
      rintro e w2' ⟨rfl, rfl⟩
      obtain ⟨r1, r2⟩ := r
      dsimp only
      obtain ⟨ev, hev⟩ : ∃ ev, ev = errV (r1 : Int) := ⟨_, rfl⟩
      rw [← hev]
      have HSE := Lib.hid (same_errV (r1 : Int) (by omega) w2)
      rw [← hev] at HSE
      clear hev HEX
      obtain ⟨x2, hx2⟩ : ∃ x2, x2 = ba r2 := ⟨_, rfl⟩
      rw [← hx2]
      clear hx2
      go_wp2_with fail
      refine HSE.out.mono ?_
      rintro e w2' ⟨rfl, rfl⟩
      go_wp2_with fail
      refine (var_any nm w2 (by omega)).mono ?_
      rintro e w2' ⟨rfl, rfl⟩
      go_wp2_with fail
      refine (varMay_any nm w2 (by omega)).mono ?_
      rintro e w2' ⟨rfl, rfl⟩
      obtain ⟨vb, hvb⟩ : ∃ vb, vb = varOk nm := ⟨_, rfl⟩
      rw [← hvb]
      clear hvb
      go_wp2_with fail
      refine (stem_any pt nm w2 (by omega) (by omega) HM2.out).mono ?_
      rintro e w3 ⟨rfl, hb3⟩
      have HB3 := Lib.hid (HB2.out.trans (hb3.mono HB2.out.size))
      have HT3 := Lib.hid (HT2.out.belowS hb3)
      have HN3 := Lib.hid (HN2.out.belowS hb3)
      clear hb3 HM2 HR2 HT2 HN2 HB2 HSE
      have HSR := Lib.hid (refStem_any pt nm w3 (by omega) (by omega))
      obtain ⟨r, hr⟩ : ∃ r, r = stemR pt nm := ⟨_, rfl⟩
      rw [← hr] at HSR ⊢
      clear hr
      obtain ⟨r1, r2⟩ := r
      dsimp only at HSR ⊢
      go_wp2_with fail
      refine HSR.out.mono ?_
      rintro e w3' ⟨rfl, rfl⟩
      clear HSR
      by_cases h0 : nt = 0
      · have e0 : ((nt : Int) == 0) = true := by rw [h0]; rfl
        clear h0
        go_wp2
        go_ret
        exact ⟨rfl, HB3.out⟩
      · have e0 : ((nt : Int) == 0) = false := by rw [beq_eq_false_iff_ne]; omega
        have hjl : (joinB ln).length ≤ 200 := by
          have h1 := joinB_len 20 ln HS2.out.2
          have h2 := HS2.out.1
          omega
        have hal : (autoT s lt ln st).length ≤ 1000000 := by
          have h1 := autoL_len (headT lt) (headT ln) (ba (joinB ln)) st 200 (by
            have : (headT lt).size ≤ 20 := by
              rcases hlt' : lt with _ | ⟨x, r⟩
              · show 0 ≤ 20; omega
              · exact HS1.out.2 x (by rw [hlt']; simp)
            omega) (by
            have : (headT ln).size ≤ 20 := by
              rcases hlt' : ln with _ | ⟨x, r⟩
              · show 0 ≤ 20; omega
              · exact HS2.out.2 x (by rw [hlt']; simp)
            omega) (by rw [ba_size]; exact hjl) (by omega) s.data.toList
          have e : s.data.toList.length = s.size := by simp
          rw [e] at h1
          show (autoL _ _ _ _ _).length ≤ _
          omega
        have hl2 := HS2.out.1
        have hln := HLN.out
        have HAU := Lib.hid (auto_any s st At An nt ct nn cn lt ln w3 HT3.out HN3.out (by omega) (by omega) (by omega) (by omega))
        have HRA := Lib.hid (fun w' (hb : Below w3.heap.size w3 w') => refAuto_any s st At An nt ct nn cn lt ln w' (HT3.out.belowS hb) (HN3.out.belowS hb) (by omega) (by omega) (by omega) (by omega) (by omega))
        obtain ⟨x, hx⟩ : ∃ x, x = ba (autoT s lt ln st) := ⟨_, rfl⟩
        rw [← hx] at HAU HRA
        clear hx hjl hal hl2 hln h0
        go_wp2_with fail
        refine HAU.out.mono ?_
        rintro e w4 ⟨rfl, hb4⟩
        have HB4 := Lib.hid (HB3.out.trans (hb4.mono HB3.out.size))
        have HRB := Lib.hid (HRA.out w4 hb4)
        clear hb4 HRA HAU
        go_wp2_with fail
        refine HRB.out.mono ?_
        rintro e w4' ⟨rfl, rfl⟩
        go_wp2
        go_ret
        exact ⟨rfl, HB4.out⟩
end Go.Proofs.Ytocodapegeajoaa
