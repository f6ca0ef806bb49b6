/-
  THE WALKS OF expand.Text AND hammerpondtop.TopExpand: for all variables and texts the call returns true, and nothing that was there has turned.
-/
import Derived.Test.YtpolnompiinanaaText
namespace Go.Proofs.Ytpolnompiinanaa
open Go.RowKit

theorem text_all (l : List F) (hl : ∀ v ∈ l, v.2.size ≤ 1000) : ∀ k, k ≤ 5 → TEXT l k := by
  intro k
  induction k with
  | zero => intro h; exact text_step l 0 h (value_step l hl 0 h (fun k' e => by omega))
  | succ k ih =>
    intro h
    refine text_step l (k + 1) h (value_step l hl (k + 1) h ?_)
    intro k' e
    have e2 : k' = k := by omega
    rw [e2]
    exact ih (by omega)

set_option maxHeartbeats 1000000 in
set_option maxRecDepth 100000 in
theorem expText_any (A : Option Addr) (n c : Nat) (l : List F) (s : ByteArray) (w : World) (h : RdF w w.heap.size A n c l) (hl : ∀ v ∈ l, v.2.size ≤ 1000) (hn : n ≤ 1000000) (hs : s.size ≤ 1000) (hm : MaxOk w) :
    Calls Try.prog 33 #[.slice A n c, .string s] w fun e w' => e = .returned (.tuple #[.string (ba (expR l 5 s.data.toList).2), errV (expR l 5 s.data.toList).1]) ∧ Below w.heap.size w w' := by
  have hmm := @run_makeMap Try.prog
  obtain ⟨r, hr⟩ : ∃ r, r = expR l 5 s.data.toList := ⟨_, rfl⟩
  rw [← hr]
  have HRR := Lib.hid hr
  clear hr
  have HR := Lib.hid h
  have HM := Lib.hid hm
  have HL := Lib.hid hl
  clear h hm hl
  have hb1 : Below w.heap.size w (w.alloc (.map #[] 0)) := (Below.refl _ _).alloc (Nat.le_refl _) _
  have hme := Memo.made l w
  have hs1 : (w.alloc (.map #[] 0)).heap.size = w.heap.size + 1 := by simp
  have hr1 := HR.out.belowS hb1
  have hx1 := HM.out.below hb1
  have hb2 : Below (w.alloc (.map #[] 0)).heap.size (w.alloc (.map #[] 0)) ((w.alloc (.map #[] 0)).alloc (.cells #[.slice A n c, .map (some w.heap.size)] 83)) := (Below.refl _ _).alloc (Nat.le_refl _) _
  have hc0 : ((w.alloc (.map #[] 0)).alloc (.cells #[.slice A n c, .map (some w.heap.size)] 83)).cell? ⟨(w.alloc (.map #[] 0)).heap.size, 0, none⟩ = some (.slice A n c) := by rw [World.cell?_alloc_at _ _ _ _ rfl]; rfl
  have hc1 : ((w.alloc (.map #[] 0)).alloc (.cells #[.slice A n c, .map (some w.heap.size)] 83)).cell? ⟨(w.alloc (.map #[] 0)).heap.size, 1, none⟩ = some (.map (some w.heap.size)) := by rw [World.cell?_alloc_at _ _ _ _ rfl]; rfl
  rw [hs1] at hc0 hc1
  have HE := Lib.hid (show ExpOk l ((w.alloc (.map #[] 0)).alloc (.cells #[.slice A n c, .map (some w.heap.size)] 83)) (w.heap.size + 1) w.heap.size 0 A n c from ⟨hc0, hc1, hr1.belowS hb2, hme.below hb2, hx1.below hb2⟩)
  have HB := Lib.hid (hb1.trans (hb2.mono (by rw [hs1]; omega)))
  clear hb1 hme hs1 hr1 hx1 hb2 hc0 hc1
  go_enter Try.func33, Try.ntmps33
  go_wp2_with fail
  generalize (w.alloc (.map #[] 0)).alloc (.cells #[.slice A n c, .map (some w.heap.size)] 83) = w2 at *
  refine (text_all l HL.out 5 (Nat.le_refl _) s w2 (w.heap.size + 1) w.heap.size 0 A n c HE.out hn hs ?_).mono ?_
  · have : cst 5 = 1001001001001 := by decide
    rw [this]
    omega
  rintro e w3 ⟨n', hn', rfl, he, hg⟩
  have HB3 := Lib.hid (HB.out.grown hg HB.out.size (fun k hk => by injection hk with hk; omega))
  clear he hg hn' HB HE
  rw [← HRR.out]
  go_wp2
  go_ret2
  exact ⟨rfl, HB3.out⟩

def VlPost (l : List F) (w : World) (e : Ending) (w' : World) : Prop := ∃ b, e = .returned (.bool b) ∧ (b = true → ∀ f ∈ l, f.1.size ≤ 10 ∧ f.2.size ≤ 60) ∧ w = w'
def VlRel (l : List F) (i : Value) : Prop := ∃ k : Nat, k ≤ l.length ∧ i = .int .i64 k ∧ ∀ j f, j < k → l[j]? = some f → f.2.size ≤ 60
theorem exp_xy : expR [] 5 [120, 32, 36, 64, 32, 121] = (0, [120, 32, 36, 64, 32, 121]) := by decide

set_option maxHeartbeats 4000000 in
set_option maxRecDepth 100000 in
theorem topExpand_any (A : Option Addr) (n c : Nat) (l : List F) (a b : ByteArray) (w : World) (h : RdF w w.heap.size A n c l) (hza : a.size ≤ 9223372036854775807) (hzb : b.size ≤ 9223372036854775807) (hm : MaxOk w) :
    Calls Try.prog 7 #[.slice A n c, .string a, .string b] w fun e w' => e = .returned (.bool true) ∧ Below w.heap.size w w' := by
  have HL0 := Lib.hid h.1
  have hcm := h.2.2.1
  have hnc := h.2.1
  unfold maxLen at hcm
  have HR := Lib.hid h
  have HM := Lib.hid hm
  clear hm h
  go_enter Try.func7, Try.ntmps7
  go_wp2_with fail
  refine (expText_any none 0 0 [] ⟨#[120, 32, 36, 64, 32, 121]⟩ w (RdF.nil _ _) (by simp) (by omega) (by decide) HM.out).mono ?_
  rintro e w1 ⟨rfl, hb1⟩
  rw [show expR [] 5 (⟨#[120, 32, 36, 64, 32, 121]⟩ : ByteArray).data.toList = (0, [120, 32, 36, 64, 32, 121]) from exp_xy]
  have e0 : errV ((((0 : Nat), [120, 32, 36, 64, 32, 121]) : Nat × Bs).1 : Int) = .nilIface := rfl
  rw [e0]
  have e1 : ba (((0 : Nat), [120, 32, 36, 64, 32, 121]) : Nat × Bs).2 = ⟨#[120, 32, 36, 64, 32, 121]⟩ := rfl
  rw [e1]
  clear e0 e1
  have HB1 := Lib.hid hb1
  have HM1 := Lib.hid (HM.out.below hb1)
  have HR1 := Lib.hid (HR.out.belowS hb1)
  clear hb1 HM HR
  by_cases q1 : 10 < n
  · have t : (10 : Int) < (n : Int) := by omega
    go_wp2
    go_ret
    exact ⟨rfl, HB1.out⟩
  have d1 : decide ((10 : Int) < (n : Int)) = false := decide_eq_false (by omega)
  by_cases q2 : 100 < a.size
  · have t : (100 : Int) < (a.size : Int) := by omega
    go_wp2
    go_ret
    exact ⟨rfl, HB1.out⟩
  have d2 : decide ((100 : Int) < (a.size : Int)) = false := decide_eq_false (by omega)
  by_cases q3 : 100 < b.size
  · have t : (100 : Int) < (b.size : Int) := by omega
    go_wp2
    go_ret
    exact ⟨rfl, HB1.out⟩
  have d3 : decide ((100 : Int) < (b.size : Int)) = false := decide_eq_false (by omega)
  by_cases hlast : a.data.toList.getLast? = some 36
  · have hpos : 0 < a.size := by
      rcases Nat.eq_zero_or_pos a.size with h0 | h0
      · have : a.data.toList = [] := List.eq_nil_of_length_eq_zero (by simpa using h0)
        rw [this] at hlast
        simp at hlast
      · exact h0
    obtain ⟨m, hm⟩ : ∃ m, a.size = m + 1 := ⟨a.size - 1, by omega⟩
    have hml : m < a.size := by omega
    have hb36 : a[m] = 36 := by
      rw [List.getLast?_eq_getElem?] at hlast
      have e1 : a.data.toList.length - 1 = m := by simp; omega
      rw [e1] at hlast
      have := (List.getElem?_eq_some_iff.1 hlast).2
      exact this
    have t1 : (0 : Int) < (a.size : Int) := by omega
    have t2 : (a.size : Int) - 1 = (m : Int) := by omega
    have t3 : ((a[m].toNat : Int) == 36) = true := by rw [hb36]; rfl
    have t4 : (m : Int) < (a.size : Int) := by omega
    clear hb36 hm
    go_wp2
    go_ret
    exact ⟨rfl, HB1.out⟩
  have hcase : a.size = 0 ∨ ∃ m, a.size = m + 1 ∧ ∃ h : m < a.size, ((a[m].toNat : Int) == 36) = false := by
    rcases Nat.eq_zero_or_pos a.size with h0 | h0
    · exact .inl h0
    · obtain ⟨m, hm⟩ : ∃ m, a.size = m + 1 := ⟨a.size - 1, by omega⟩
      refine .inr ⟨m, hm, by omega, ?_⟩
      rw [beq_eq_false_iff_ne]
      intro e
      apply hlast
      rw [List.getLast?_eq_getElem?]
      have e1 : a.data.toList.length - 1 = m := by simp; omega
      rw [e1, List.getElem?_eq_getElem (by simp; omega)]
      have : a[m] = 36 := UInt8.toNat_inj.1 (by have : (36 : UInt8).toNat = 36 := rfl; omega)
      exact congrArg some this
  rcases hcase with h0 | ⟨m, hm, hml, t3⟩
  · have t1 : decide ((0 : Int) < (a.size : Int)) = false := decide_eq_false (by omega)
    go_wp2
    go_loop [9] (fun i => VlRel l i) (fun i => n - (intOf i).toNat)
    case atStart => exact ⟨0, Nat.zero_le _, rfl, fun j g h => by omega⟩
    case round =>
      obtain ⟨k, hk, rfl, hno⟩ := hrel
      have hkn : k ≤ n := by rw [← HL0.out]; exact hk
      clear hk
      have HN := Lib.hid hno
      clear hno
      by_cases hlt : k < n
      · obtain ⟨f, hf⟩ : ∃ f, l[k]? = some f := ⟨_, List.getElem?_eq_getElem (by rw [HL0.out]; exact hlt)⟩
        obtain ⟨b', off, rfl, _, hc1, hc2⟩ := HR1.out.at_ hf
        have hkz : (k : Int) < (n : Int) := by omega
        have HF := Lib.hid hf
        clear hf
        by_cases hq1 : 60 < f.2.size
        · have u1 : (60 : Int) < (f.2.size : Int) := by omega
          go_wp2
          go_ret
          exact ⟨rfl, HB1.out⟩
        have u1 : decide ((60 : Int) < (f.2.size : Int)) = false := decide_eq_false (by omega)
        by_cases hq2 : 10 < f.1.size
        · have u2 : (10 : Int) < (f.1.size : Int) := by omega
          go_wp2
          go_ret
          exact ⟨rfl, HB1.out⟩
        have u2 : decide ((10 : Int) < (f.1.size : Int)) = false := decide_eq_false (by omega)
        go_wp2
        go_round
        case rel =>
          refine ⟨k + 1, by rw [HL0.out]; omega, by go_num, fun j g hj hg => ?_⟩
          rcases Nat.lt_or_ge j k with h1 | h1
          · exact HN.out j g h1 hg
          · obtain rfl : j = k := by omega
            have e1 := HF.out
            rw [e1] at hg
            injection hg with hg
            subst hg
            omega
        case measure => simp [intOf]; omega
      · obtain rfl : k = n := by omega
        have HV := Lib.hid (show ∀ v ∈ l, v.2.size ≤ 1000 from fun v hv => by
          obtain ⟨j, hj, e⟩ := List.mem_iff_getElem.1 hv
          have := HN.out j v (by rw [← HL0.out]; exact hj) (by rw [List.getElem?_eq_getElem hj, e])
          omega)
        clear HN
        go_wp2_with fail
        refine (expText_any A k c l a w1 HR1.out HV.out (by omega) (by omega) HM1.out).mono ?_
        rintro e w2 ⟨rfl, hb2⟩
        have HB2 := Lib.hid (HB1.out.trans (hb2.mono HB1.out.size))
        have HM2 := Lib.hid (HM1.out.below hb2)
        have HR2 := Lib.hid (HR1.out.belowS hb2)
        clear hb2 HB1 HM1 HR1
        go_wp2_with fail
        refine (expText_any A k c l b w2 HR2.out HV.out (by omega) (by omega) HM2.out).mono ?_
        rintro e w3 ⟨rfl, hb3⟩
        have HB3 := Lib.hid (HB2.out.trans (hb3.mono HB2.out.size))
        have HM3 := Lib.hid (HM2.out.below hb3)
        have HR3 := Lib.hid (HR2.out.belowS hb3)
        clear hb3 HB2 HM2 HR2
        have HAP := Lib.hid (expR_append l 5 a.data.toList b.data.toList)
        have HLA := Lib.hid hlast
        have hxl : (expR l 5 a.data.toList).1 = 0 → (expR l 5 a.data.toList).2.length ≤ 600 := fun h => expL_len _ _ _ _ (Prod.ext h rfl)
        have hyl : (expR l 5 b.data.toList).1 = 0 → (expR l 5 b.data.toList).2.length ≤ 600 := fun h => expL_len _ _ _ _ (Prod.ext h rfl)
        have hab : (a ++ b).data.toList = a.data.toList ++ b.data.toList := data_append a b
        rw [← hab] at HAP
        revert HAP hxl hyl
        generalize expR l 5 a.data.toList = ra
        generalize expR l 5 b.data.toList = rb
        obtain ⟨ea, x⟩ := ra
        obtain ⟨eb, y⟩ := rb
        intro HAP hxl hyl
        dsimp only at hxl hyl
        by_cases hea : ea = 0
        · subst hea
          have e0 : errV ((((0 : Nat), x) : Nat × Bs).1 : Int) = .nilIface := rfl
          rw [e0]
          clear e0
          by_cases heb : eb = 0
          · subst heb
            have e0 : errV ((((0 : Nat), y) : Nat × Bs).1 : Int) = .nilIface := rfl
            rw [e0]
            clear e0
            have hxl' := hxl rfl
            have hyl' := hyl rfl
            have zx : (ba x).size ≤ 600 := by rw [ba_size]; exact hxl'
            have zy : (ba y).size ≤ 600 := by rw [ba_size]; exact hyl'
            clear hxl hyl
            by_cases hsum : 600 < x.length + y.length
            · have u : (600 : Int) < ((ba x).size : Int) + ((ba y).size : Int) := by rw [ba_size, ba_size]; omega
              go_wp2
              go_ret
              exact ⟨rfl, HB3.out⟩
            · have u : decide ((600 : Int) < ((ba x).size : Int) + ((ba y).size : Int)) = false := decide_eq_false (by rw [ba_size, ba_size]; omega)
              have hz := HAP.out x y rfl rfl HLA.out (by omega)
              have HZ := Lib.hid hz
              have hss : (a ++ b).size ≤ 1000 := by rw [ByteArray.size_append]; omega
              clear hz HAP hab
              go_wp2_with fail
              generalize a ++ b = ab at *
              refine (expText_any A k c l ab w3 HR3.out HV.out (by omega) (by omega) HM3.out).mono ?_
              rintro e w4 ⟨rfl, hb4⟩
              have HB4 := Lib.hid (HB3.out.trans (hb4.mono HB3.out.size))
              clear hb4 HB3 HM3 HR3
              rw [HZ.out]
              have e0 : errV ((((0 : Nat), x ++ y) : Nat × Bs).1 : Int) = .nilIface := rfl
              rw [e0]
              clear e0
              dsimp only
              rw [ba_append]
              go_wp2
              go_ret
              exact ⟨by first | rfl | simp, HB4.out⟩
          · rw [errV_pos (k := (((eb, y) : Nat × Bs).1 : Int)) (by show (eb : Int) ≠ 0; omega)]
            go_wp2
            go_ret
            exact ⟨rfl, HB3.out⟩
        · rw [errV_pos (k := (((ea, x) : Nat × Bs).1 : Int)) (by show (ea : Int) ≠ 0; omega)]
          go_wp2
          go_ret
          exact ⟨rfl, HB3.out⟩
  · have t1 : (0 : Int) < (a.size : Int) := by omega
    have t2 : (a.size : Int) - 1 = (m : Int) := by omega
    have t4 : (m : Int) < (a.size : Int) := by omega
    clear hm
    go_wp2
    go_loop [9] (fun i => VlRel l i) (fun i => n - (intOf i).toNat)
    case atStart => exact ⟨0, Nat.zero_le _, rfl, fun j g h => by omega⟩
    case round =>
      obtain ⟨k, hk, rfl, hno⟩ := hrel
      have hkn : k ≤ n := by rw [← HL0.out]; exact hk
      clear hk
      have HN := Lib.hid hno
      clear hno
      by_cases hlt : k < n
      · obtain ⟨f, hf⟩ : ∃ f, l[k]? = some f := ⟨_, List.getElem?_eq_getElem (by rw [HL0.out]; exact hlt)⟩
        obtain ⟨b', off, rfl, _, hc1, hc2⟩ := HR1.out.at_ hf
        have hkz : (k : Int) < (n : Int) := by omega
        have HF := Lib.hid hf
        clear hf
        by_cases hq1 : 60 < f.2.size
        · have u1 : (60 : Int) < (f.2.size : Int) := by omega
          go_wp2
          go_ret
          exact ⟨rfl, HB1.out⟩
        have u1 : decide ((60 : Int) < (f.2.size : Int)) = false := decide_eq_false (by omega)
        by_cases hq2 : 10 < f.1.size
        · have u2 : (10 : Int) < (f.1.size : Int) := by omega
          go_wp2
          go_ret
          exact ⟨rfl, HB1.out⟩
        have u2 : decide ((10 : Int) < (f.1.size : Int)) = false := decide_eq_false (by omega)
        go_wp2
        go_round
        case rel =>
          refine ⟨k + 1, by rw [HL0.out]; omega, by go_num, fun j g hj hg => ?_⟩
          rcases Nat.lt_or_ge j k with h1 | h1
          · exact HN.out j g h1 hg
          · obtain rfl : j = k := by omega
            have e1 := HF.out
            rw [e1] at hg
            injection hg with hg
            subst hg
            omega
        case measure => simp [intOf]; omega
      · obtain rfl : k = n := by omega
        have HV := Lib.hid (show ∀ v ∈ l, v.2.size ≤ 1000 from fun v hv => by
          obtain ⟨j, hj, e⟩ := List.mem_iff_getElem.1 hv
          have := HN.out j v (by rw [← HL0.out]; exact hj) (by rw [List.getElem?_eq_getElem hj, e])
          omega)
        clear HN
        go_wp2_with fail
        refine (expText_any A k c l a w1 HR1.out HV.out (by omega) (by omega) HM1.out).mono ?_
        rintro e w2 ⟨rfl, hb2⟩
        have HB2 := Lib.hid (HB1.out.trans (hb2.mono HB1.out.size))
        have HM2 := Lib.hid (HM1.out.below hb2)
        have HR2 := Lib.hid (HR1.out.belowS hb2)
        clear hb2 HB1 HM1 HR1
        go_wp2_with fail
        refine (expText_any A k c l b w2 HR2.out HV.out (by omega) (by omega) HM2.out).mono ?_
        rintro e w3 ⟨rfl, hb3⟩
        have HB3 := Lib.hid (HB2.out.trans (hb3.mono HB2.out.size))
        have HM3 := Lib.hid (HM2.out.below hb3)
        have HR3 := Lib.hid (HR2.out.belowS hb3)
        clear hb3 HB2 HM2 HR2
        have HAP := Lib.hid (expR_append l 5 a.data.toList b.data.toList)
        have HLA := Lib.hid hlast
        have hxl : (expR l 5 a.data.toList).1 = 0 → (expR l 5 a.data.toList).2.length ≤ 600 := fun h => expL_len _ _ _ _ (Prod.ext h rfl)
        have hyl : (expR l 5 b.data.toList).1 = 0 → (expR l 5 b.data.toList).2.length ≤ 600 := fun h => expL_len _ _ _ _ (Prod.ext h rfl)
        have hab : (a ++ b).data.toList = a.data.toList ++ b.data.toList := data_append a b
        rw [← hab] at HAP
        revert HAP hxl hyl
        generalize expR l 5 a.data.toList = ra
        generalize expR l 5 b.data.toList = rb
        obtain ⟨ea, x⟩ := ra
        obtain ⟨eb, y⟩ := rb
        intro HAP hxl hyl
        dsimp only at hxl hyl
        by_cases hea : ea = 0
        · subst hea
          have e0 : errV ((((0 : Nat), x) : Nat × Bs).1 : Int) = .nilIface := rfl
          rw [e0]
          clear e0
          by_cases heb : eb = 0
          · subst heb
            have e0 : errV ((((0 : Nat), y) : Nat × Bs).1 : Int) = .nilIface := rfl
            rw [e0]
            clear e0
            have hxl' := hxl rfl
            have hyl' := hyl rfl
            have zx : (ba x).size ≤ 600 := by rw [ba_size]; exact hxl'
            have zy : (ba y).size ≤ 600 := by rw [ba_size]; exact hyl'
            clear hxl hyl
            by_cases hsum : 600 < x.length + y.length
            · have u : (600 : Int) < ((ba x).size : Int) + ((ba y).size : Int) := by rw [ba_size, ba_size]; omega
              go_wp2
              go_ret
              exact ⟨rfl, HB3.out⟩
            · have u : decide ((600 : Int) < ((ba x).size : Int) + ((ba y).size : Int)) = false := decide_eq_false (by rw [ba_size, ba_size]; omega)
              have hz := HAP.out x y rfl rfl HLA.out (by omega)
              have HZ := Lib.hid hz
              have hss : (a ++ b).size ≤ 1000 := by rw [ByteArray.size_append]; omega
              clear hz HAP hab
              go_wp2_with fail
              generalize a ++ b = ab at *
              refine (expText_any A k c l ab w3 HR3.out HV.out (by omega) (by omega) HM3.out).mono ?_
              rintro e w4 ⟨rfl, hb4⟩
              have HB4 := Lib.hid (HB3.out.trans (hb4.mono HB3.out.size))
              clear hb4 HB3 HM3 HR3
              rw [HZ.out]
              have e0 : errV ((((0 : Nat), x ++ y) : Nat × Bs).1 : Int) = .nilIface := rfl
              rw [e0]
              clear e0
              dsimp only
              rw [ba_append]
              go_wp2
              go_ret
              exact ⟨by first | rfl | simp, HB4.out⟩
          · rw [errV_pos (k := (((eb, y) : Nat × Bs).1 : Int)) (by show (eb : Int) ≠ 0; omega)]
            go_wp2
            go_ret
            exact ⟨rfl, HB3.out⟩
        · rw [errV_pos (k := (((ea, x) : Nat × Bs).1 : Int)) (by show (ea : Int) ≠ 0; omega)]
          go_wp2
          go_ret
          exact ⟨rfl, HB3.out⟩
end Go.Proofs.Ytpolnompiinanaa
