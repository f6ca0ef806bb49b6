/-
  WALK: makefile.wellShaped: may the targets and needs of a rule stand together?
-/
import Derived.Test.YtlkpbpecgdphaaaGreatDoorShaped
namespace Go.Proofs.YtlkpbpecgdphaaaGreatDoor
open Go.RowKit

theorem RdS.take {w : World} {B : Nat} {A : Option Addr} {n c : Nat} {l : List ByteArray} (h : RdS w B A n c l) {k : Nat} (hk : k ≤ n) : RdS w B A k c (l.take k) :=
  ⟨by rw [List.length_take, h.1]; omega, by have := h.2.1; omega, h.2.2.1, fun h0 => by
    obtain ⟨b, off, e, hb, hc⟩ := h.2.2.2 (by omega)
    refine ⟨b, off, e, hb, fun j u hu => ?_⟩
    rcases Nat.lt_or_ge j k with h1 | h1
    · rw [List.getElem?_take_of_lt h1] at hu
      exact hc j u hu
    · rw [List.getElem?_take_eq_none h1] at hu
      cases hu⟩
theorem shaped_many {T N : List ByteArray} (h1 : T.any patB = true) (h2 : 1 < T.length) : shapedR T N = false := by
  unfold shapedR
  rw [h1, decide_eq_true h2]
  rfl
theorem shaped_bad {T N : List ByteArray} {k : Nat} {x : ByteArray} (hx : (T ++ N)[k]? = some x) (h : wordOk (T ++ N) (T.any patB) k x = false) : shapedR T N = false := by
  have hk := (List.getElem?_eq_some_iff.1 hx).1
  unfold shapedR
  have : ((List.range (T ++ N).length).all fun i => wordOk (T ++ N) (T.any patB) i ((T ++ N)[i]?.getD ⟨#[]⟩)) = false := by
    rw [List.all_eq_false]
    exact ⟨k, List.mem_range.2 hk, by rw [hx]; simp [h]⟩
  rw [this]
  simp
theorem shaped_good {T N : List ByteArray} (h0 : ¬ (T.any patB = true ∧ 1 < T.length)) (h : ∀ k x, (T ++ N)[k]? = some x → wordOk (T ++ N) (T.any patB) k x = true) : shapedR T N = true := by
  unfold shapedR
  have h1 : (T.any patB && decide (1 < T.length)) = false := by
    cases hp : T.any patB with
    | false => rfl
    | true => rw [Bool.true_and]; exact decide_eq_false (fun h2 => h0 ⟨hp, h2⟩)
  rw [h1]
  simp only [Bool.not_false, Bool.true_and, List.all_eq_true, List.mem_range]
  intro i hi
  rw [List.getElem?_eq_getElem hi]
  exact h i _ (List.getElem?_eq_getElem hi)
theorem onceR_size (s : ByteArray) : (onceR s).size = s.size := by
  unfold onceR
  split
  · rename_i h
    have := cut_short h
    rw [ba_size]
    simp at this ⊢
    omega
  · rfl
def WsRel (w : World) (n : Nat) (all : List ByteArray) (pat : Bool) (A : Option Addr) (c : Nat) (i : Value) (wr : World) : Prop :=
  ∃ k : Nat, k ≤ n ∧ i = .int .i64 k ∧ (∀ j x, j < k → all[j]? = some x → wordOk all pat j x = true) ∧ Below w.heap.size w wr ∧ RdS wr wr.heap.size A n c all ∧ MaxOk wr

set_option maxHeartbeats 2000000 in
set_option maxRecDepth 100000 in
theorem wellShaped_any (At An Ac : Option Addr) (nt nn nc ct cn cc : Nat) (T N : List ByteArray) (w : World) (hT : RdS w w.heap.size At nt ct T) (hN : RdS w w.heap.size An nn cn N) (hnt : nt ≤ 1000) (hnn : nn ≤ 1000) (hst : ∀ x ∈ T, x.size ≤ 1000) (hsn : ∀ x ∈ N, x.size ≤ 1000) (hm : MaxOk w) :
    Calls Tryz.prog 125 #[.agg #[.slice At nt ct, .slice An nn cn, .slice Ac nc cc]] w fun e w' => e = .returned (.bool (shapedR T N)) ∧ Below w.heap.size w w' := by
  obtain ⟨b, hb⟩ : ∃ b, b = shapedR T N := ⟨_, rfl⟩
  rw [← hb]
  have HB := Lib.hid hb
  clear hb
  have hba : Below w.heap.size w (w.alloc (.cells #[.slice At nt ct, .slice An nn cn, .slice Ac nc cc] 115)) := (Below.refl _ _).alloc (Nat.le_refl _) _
  have hc0 : (w.alloc (.cells #[.slice At nt ct, .slice An nn cn, .slice Ac nc cc] 115)).cell? ⟨w.heap.size, 0, none⟩ = some (.slice At nt ct) := by rw [World.cell?_alloc_at _ _ _ _ rfl]; rfl
  have hc1 : (w.alloc (.cells #[.slice At nt ct, .slice An nn cn, .slice Ac nc cc] 115)).cell? ⟨w.heap.size, 1, none⟩ = some (.slice An nn cn) := by rw [World.cell?_alloc_at _ _ _ _ rfl]; rfl
  have HT := Lib.hid (hT.belowS hba)
  have HN := Lib.hid (hN.belowS hba)
  have HM := Lib.hid (hm.below hba)
  have HBA := Lib.hid hba
  have HST := Lib.hid hst
  have HSN := Lib.hid hsn
  have HLT := Lib.hid hT.1
  have HLN := Lib.hid hN.1
  clear hT hN hm hba hst hsn
  go_enter Tryz.func125, Tryz.ntmps125
  go_wp2_with fail
  generalize w.alloc (.cells #[.slice At nt ct, .slice An nn cn, .slice Ac nc cc] 115) = w1 at *
  refine (containsFunc_any At nt ct T w1 HT.out (by omega) (fun x hx => by have := HST.out x hx; omega) HM.out).mono ?_
  rintro e w1' ⟨rfl, rfl⟩
  generalize hpat : T.any patB = pat at *
  have HP := Lib.hid hpat
  clear hpat
  by_cases hmany : pat = true ∧ 1 < nt
  · obtain ⟨rfl, h1⟩ := hmany
    have t1 : (1 : Int) < (nt : Int) := by omega
    have H1 := Lib.hid (HB.out.trans (shaped_many HP.out (by rw [HLT.out]; exact h1)))
    go_wp2
    go_ret
    exact ⟨by rw [H1.out]; rfl, HBA.out⟩
  have hcase : pat = true → nt ≤ 1 := fun h => by
    rcases Nat.lt_or_ge 1 nt with h1 | h1
    · exact absurd ⟨h, h1⟩ hmany
    · exact h1
  have HMANY := Lib.hid hmany
  clear hmany
  cases pat with
  | false =>
    have b2 : Below w1.heap.size w1 (w1.alloc (.cells #[.slice At nt ct, .slice An nn cn] 27)) := (Below.refl _ _).alloc (Nat.le_refl _) _
    have hs2 : (w1.alloc (.cells #[.slice At nt ct, .slice An nn cn] 27)).heap.size = w1.heap.size + 1 := by simp
    have hL : RdLS (w1.alloc (.cells #[.slice At nt ct, .slice An nn cn] 27)) (w1.alloc (.cells #[.slice At nt ct, .slice An nn cn] 27)).heap.size w1.heap.size 0 [(At, nt, ct, T), (An, nn, cn, N)] := by
      intro j q hq
      match j, hq with
      | 0, hq =>
        simp at hq
        subst hq
        exact ⟨by rw [World.cell?_alloc_at _ _ _ _ rfl]; rfl, HT.out.belowS b2⟩
      | 1, hq =>
        simp at hq
        subst hq
        exact ⟨by rw [World.cell?_alloc_at _ _ _ _ rfl]; rfl, HN.out.belowS b2⟩
      | j + 2, hq => simp at hq
    have HL := Lib.hid hL
    have HM2 := Lib.hid (HM.out.below b2)
    have HB2 := Lib.hid (HBA.out.trans (b2.mono HBA.out.size))
    clear hL b2
    go_wp2_with fail
    generalize w1.alloc (.cells #[.slice At nt ct, .slice An nn cn] 27) = w2 at *
    have hal : allFS [(At, nt, ct, T), (An, nn, cn, N)] = T ++ N := by simp [allFS]
    have hall : (T ++ N).length = nt + nn := by rw [List.length_append, HLT.out, HLN.out]
    refine (concatS_any w1.heap.size 0 2 [(At, nt, ct, T), (An, nn, cn, N)] w2 (by omega) HL.out (by simp) (by rw [hal, hall]; omega)).mono ?_
    rw [hal]
    rintro e w3 ⟨v3, rfl, hown3, hb3⟩
    obtain ⟨A3, c3, rfl, hr3⟩ := RdS.of_own hown3
    have HSA := Lib.hid (show ∀ x ∈ T ++ N, x.size ≤ 1000 from fun x hx => by rcases List.mem_append.1 hx with h | h; exact HST.out x h; exact HSN.out x h)
    have HHALL := Lib.hid hall
    rw [hall] at hr3 ⊢
    have hnl : nt + nn ≤ 2000 := by omega
    have HR3 := Lib.hid hr3
    have HB3 := Lib.hid (HB2.out.trans (hb3.mono HB2.out.size))
    have HM3 := Lib.hid (HM2.out.below hb3)
    clear hr3 hb3 hown3 HB2 HM2 HL HT HN hall hal HM HBA hc0 hc1 hs2
    generalize hnn2 : nt + nn = n at *
    clear hnn2
    go_wp2
    go_loopw [25] (fun i wr => WsRel w n (T ++ N) false A3 c3 i wr) (fun i _ => n - (intOf i).toNat)
    case atStart => exact ⟨0, Nat.zero_le _, rfl, fun j x h => by omega, HB3.out, HR3.out, HM3.out⟩
    case round =>
      obtain ⟨k, hk, rfl, hno, hbw, hrw, hmw⟩ := hrel
      have HNO := Lib.hid hno
      have HRW := Lib.hid hrw
      have HMW := Lib.hid hmw
      have HBW := Lib.hid hbw
      clear hno hrw hmw hbw HB3 HR3 HM3
      by_cases hlt : k < n
      · obtain ⟨x, hx⟩ : ∃ x, (T ++ N)[k]? = some x := ⟨_, List.getElem?_eq_getElem (by rw [HHALL.out]; exact hlt)⟩
        obtain ⟨b', off, rfl, _, hc5⟩ := HRW.out.at_ hx
        have hkz : (k : Int) < (n : Int) := by omega
        have hxs : x.size ≤ 1000 := HSA.out x (List.mem_of_getElem? hx)
        have HX := Lib.hid hx
        clear hx
        have hos : (onceR x).size ≤ 1000 := by rw [onceR_size]; exact hxs
        go_wp2_with fail
        refine (replace_any x wr (by omega) HMW.out).mono ?_
        rintro e w5 ⟨rfl, hb5⟩
        have HB5 := Lib.hid (HBW.out.trans (hb5.mono HBW.out.size))
        have HR5 := Lib.hid (HRW.out.belowS hb5)
        have HM5 := Lib.hid (HMW.out.below hb5)
        clear hb5 HBW HRW HMW hc5
        go_wp2_with fail
        refine (name_any (onceR x) w5 (by omega)).mono ?_
        rintro e w5' ⟨rfl, rfl⟩
        cases hnm : nameB (onceR x) with
        | false =>
          have H1 := Lib.hid (HB.out.trans (shaped_bad HX.out (by rw [HP.out]; unfold wordOk; rw [hnm]; rfl)))
          go_wp2
          go_ret
          exact ⟨by rw [H1.out]; rfl, HB5.out⟩
        | true =>
          have hk2 : (k : Int) ≤ (c3 : Int) := by have := HR5.out.2.1; omega
          have hcm : (c3 : Int) ≤ 9223372036854775807 := by have := HR5.out.2.2.1; unfold maxLen at this; omega
          go_wp2_with fail
          refine (contains_any (some ⟨b', off, none⟩) k c3 ((T ++ N).take k) x w5 (HR5.out.take (by omega)) (by omega)).mono ?_
          rintro e w5' ⟨rfl, rfl⟩
          cases hin : inT ((T ++ N).take k) x with
          | true =>
            have H1 := Lib.hid (HB.out.trans (shaped_bad HX.out (by rw [HP.out]; unfold wordOk; rw [hnm, hin]; rfl)))
            go_wp2
            go_ret
            exact ⟨by rw [H1.out]; rfl, HB5.out⟩
          | false =>
            go_wp2_with fail
            refine (isPattern_any x w5 (by omega) HM5.out).mono ?_
            rintro e w5' ⟨rfl, rfl⟩
            cases hpx : patB x with
            | true =>
              have H1 := Lib.hid (HB.out.trans (shaped_bad HX.out (by rw [HP.out]; unfold wordOk; rw [hnm, hin, hpx]; rfl)))
              go_wp2
              go_ret
              exact ⟨by rw [H1.out]; rfl, HB5.out⟩
            | false =>
              have H2 := Lib.hid (show wordOk (T ++ N) false k x = true by unfold wordOk; rw [hnm, hin, hpx]; rfl)
              go_wp2
              go_roundw
              case rel =>
                refine ⟨k + 1, by omega, by go_num, fun j y hj hy => ?_, HB5.out, HR5.out, HM5.out⟩
                rcases Nat.lt_or_ge j k with h1 | h1
                · exact HNO.out j y h1 hy
                · obtain rfl : j = k := by omega
                  rw [HX.out] at hy
                  injection hy with hy
                  rw [← hy]
                  exact H2.out
              case measure => simp [intOf]; omega
      · obtain rfl : k = n := by omega
        have H1 := Lib.hid (HB.out.trans (shaped_good (by rw [HP.out, HLT.out]; rintro ⟨h1, h2⟩; first | exact HMANY.out ⟨h1, h2⟩ | exact HMANY.out ⟨trivial, h2⟩) (fun j y hy => by rw [HP.out]; exact HNO.out j y (by rw [← HHALL.out]; exact (List.getElem?_eq_some_iff.1 hy).1) hy)))
        go_wp2
        go_ret
        exact ⟨by rw [H1.out]; rfl, HBW.out⟩
  | true =>
    have t1 : decide ((1 : Int) < (nt : Int)) = false := decide_eq_false (by have := hcase rfl; omega)
    have b2 : Below w1.heap.size w1 (w1.alloc (.cells #[.slice At nt ct, .slice An nn cn] 27)) := (Below.refl _ _).alloc (Nat.le_refl _) _
    have hs2 : (w1.alloc (.cells #[.slice At nt ct, .slice An nn cn] 27)).heap.size = w1.heap.size + 1 := by simp
    have hL : RdLS (w1.alloc (.cells #[.slice At nt ct, .slice An nn cn] 27)) (w1.alloc (.cells #[.slice At nt ct, .slice An nn cn] 27)).heap.size w1.heap.size 0 [(At, nt, ct, T), (An, nn, cn, N)] := by
      intro j q hq
      match j, hq with
      | 0, hq =>
        simp at hq
        subst hq
        exact ⟨by rw [World.cell?_alloc_at _ _ _ _ rfl]; rfl, HT.out.belowS b2⟩
      | 1, hq =>
        simp at hq
        subst hq
        exact ⟨by rw [World.cell?_alloc_at _ _ _ _ rfl]; rfl, HN.out.belowS b2⟩
      | j + 2, hq => simp at hq
    have HL := Lib.hid hL
    have HM2 := Lib.hid (HM.out.below b2)
    have HB2 := Lib.hid (HBA.out.trans (b2.mono HBA.out.size))
    clear hL b2
    go_wp2_with fail
    generalize w1.alloc (.cells #[.slice At nt ct, .slice An nn cn] 27) = w2 at *
    have hal : allFS [(At, nt, ct, T), (An, nn, cn, N)] = T ++ N := by simp [allFS]
    have hall : (T ++ N).length = nt + nn := by rw [List.length_append, HLT.out, HLN.out]
    refine (concatS_any w1.heap.size 0 2 [(At, nt, ct, T), (An, nn, cn, N)] w2 (by omega) HL.out (by simp) (by rw [hal, hall]; omega)).mono ?_
    rw [hal]
    rintro e w3 ⟨v3, rfl, hown3, hb3⟩
    obtain ⟨A3, c3, rfl, hr3⟩ := RdS.of_own hown3
    have HSA := Lib.hid (show ∀ x ∈ T ++ N, x.size ≤ 1000 from fun x hx => by rcases List.mem_append.1 hx with h | h; exact HST.out x h; exact HSN.out x h)
    have HHALL := Lib.hid hall
    rw [hall] at hr3 ⊢
    have hnl : nt + nn ≤ 2000 := by omega
    have HR3 := Lib.hid hr3
    have HB3 := Lib.hid (HB2.out.trans (hb3.mono HB2.out.size))
    have HM3 := Lib.hid (HM2.out.below hb3)
    clear hr3 hb3 hown3 HB2 HM2 HL HT HN hall hal HM HBA hc0 hc1 hs2
    generalize hnn2 : nt + nn = n at *
    clear hnn2
    go_wp2
    go_loopw [25] (fun i wr => WsRel w n (T ++ N) true A3 c3 i wr) (fun i _ => n - (intOf i).toNat)
    case atStart => exact ⟨0, Nat.zero_le _, rfl, fun j x h => by omega, HB3.out, HR3.out, HM3.out⟩
    case round =>
      obtain ⟨k, hk, rfl, hno, hbw, hrw, hmw⟩ := hrel
      have HNO := Lib.hid hno
      have HRW := Lib.hid hrw
      have HMW := Lib.hid hmw
      have HBW := Lib.hid hbw
      clear hno hrw hmw hbw HB3 HR3 HM3
      by_cases hlt : k < n
      · obtain ⟨x, hx⟩ : ∃ x, (T ++ N)[k]? = some x := ⟨_, List.getElem?_eq_getElem (by rw [HHALL.out]; exact hlt)⟩
        obtain ⟨b', off, rfl, _, hc5⟩ := HRW.out.at_ hx
        have hkz : (k : Int) < (n : Int) := by omega
        have hxs : x.size ≤ 1000 := HSA.out x (List.mem_of_getElem? hx)
        have HX := Lib.hid hx
        clear hx
        have hos : (onceR x).size ≤ 1000 := by rw [onceR_size]; exact hxs
        go_wp2_with fail
        refine (replace_any x wr (by omega) HMW.out).mono ?_
        rintro e w5 ⟨rfl, hb5⟩
        have HB5 := Lib.hid (HBW.out.trans (hb5.mono HBW.out.size))
        have HR5 := Lib.hid (HRW.out.belowS hb5)
        have HM5 := Lib.hid (HMW.out.below hb5)
        clear hb5 HBW HRW HMW hc5
        go_wp2_with fail
        refine (name_any (onceR x) w5 (by omega)).mono ?_
        rintro e w5' ⟨rfl, rfl⟩
        cases hnm : nameB (onceR x) with
        | false =>
          have H1 := Lib.hid (HB.out.trans (shaped_bad HX.out (by rw [HP.out]; unfold wordOk; rw [hnm]; rfl)))
          go_wp2
          go_ret
          exact ⟨by rw [H1.out]; rfl, HB5.out⟩
        | true =>
          have hk2 : (k : Int) ≤ (c3 : Int) := by have := HR5.out.2.1; omega
          have hcm : (c3 : Int) ≤ 9223372036854775807 := by have := HR5.out.2.2.1; unfold maxLen at this; omega
          go_wp2_with fail
          refine (contains_any (some ⟨b', off, none⟩) k c3 ((T ++ N).take k) x w5 (HR5.out.take (by omega)) (by omega)).mono ?_
          rintro e w5' ⟨rfl, rfl⟩
          cases hin : inT ((T ++ N).take k) x with
          | true =>
            have H1 := Lib.hid (HB.out.trans (shaped_bad HX.out (by rw [HP.out]; unfold wordOk; rw [hnm, hin]; rfl)))
            go_wp2
            go_ret
            exact ⟨by rw [H1.out]; rfl, HB5.out⟩
          | false =>
            go_wp2_with fail
            refine (isPattern_any x w5 (by omega) HM5.out).mono ?_
            rintro e w5' ⟨rfl, rfl⟩
            cases hpx : patB x with
            | true =>
              have H2 := Lib.hid (show wordOk (T ++ N) true k x = true by unfold wordOk; rw [hnm, hin, hpx]; rfl)
              go_wp2
              go_roundw
              case rel =>
                refine ⟨k + 1, by omega, by go_num, fun j y hj hy => ?_, HB5.out, HR5.out, HM5.out⟩
                rcases Nat.lt_or_ge j k with h1 | h1
                · exact HNO.out j y h1 hy
                · obtain rfl : j = k := by omega
                  rw [HX.out] at hy
                  injection hy with hy
                  rw [← hy]
                  exact H2.out
              case measure => simp [intOf]; omega
            | false =>
              have H2 := Lib.hid (show wordOk (T ++ N) true k x = true by unfold wordOk; rw [hnm, hin, hpx]; rfl)
              go_wp2
              go_roundw
              case rel =>
                refine ⟨k + 1, by omega, by go_num, fun j y hj hy => ?_, HB5.out, HR5.out, HM5.out⟩
                rcases Nat.lt_or_ge j k with h1 | h1
                · exact HNO.out j y h1 hy
                · obtain rfl : j = k := by omega
                  rw [HX.out] at hy
                  injection hy with hy
                  rw [← hy]
                  exact H2.out
              case measure => simp [intOf]; omega
      · obtain rfl : k = n := by omega
        have H1 := Lib.hid (HB.out.trans (shaped_good (by rw [HP.out, HLT.out]; rintro ⟨h1, h2⟩; first | exact HMANY.out ⟨h1, h2⟩ | exact HMANY.out ⟨trivial, h2⟩) (fun j y hy => by rw [HP.out]; exact HNO.out j y (by rw [← HHALL.out]; exact (List.getElem?_eq_some_iff.1 hy).1) hy)))
        go_wp2
        go_ret
        exact ⟨by rw [H1.out]; rfl, HBW.out⟩
end Go.Proofs.YtlkpbpecgdphaaaGreatDoor
