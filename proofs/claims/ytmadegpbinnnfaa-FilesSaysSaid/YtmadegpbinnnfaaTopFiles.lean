/-
  THE WALK OF hammerpondtop.TopFiles: for every slice that reads as files, every file and every name the call returns true, and nothing that was there has turned.
-/
import Derived.Test.YtmadegpbinnnfaaPut
import Derived.Test.YtmadegpbinnnfaaLight
namespace Go.Proofs.Ytmadegpbinnnfaa
open Go.RowKit

/-- How a world stands to the first one, in which a file's box was laid. -/
structure St (w : World) (x t : ByteArray) (wk : World) : Prop where
  b : Below w.heap.size w wk
  lt : w.heap.size < wk.heap.size
  c0 : wk.cell? ⟨w.heap.size, 0, none⟩ = some (.string x)
  c1 : wk.cell? ⟨w.heap.size, 1, none⟩ = some (.string t)
theorem St.step {w wk wj : World} {x t : ByteArray} (h : St w x t wk) (hb : Below wk.heap.size wk wj) : St w x t wj :=
  ⟨h.b.trans (hb.mono (Nat.le_of_lt h.lt)), Nat.lt_of_lt_of_le h.lt hb.size, (hb.cell (p := ⟨w.heap.size, 0, none⟩) h.lt).trans h.c0, (hb.cell (p := ⟨w.heap.size, 1, none⟩) h.lt).trans h.c1⟩
theorem St.drewN {w wk : World} {x t : ByteArray} (h : St w x t wk) (k : Nat) : St w x t (wk.drewN k) := ⟨⟨h.b.os, h.b.tape, h.b.output, h.b.size, h.b.block⟩, h.lt, h.c0, h.c1⟩
theorem St.start (w : World) (x t : ByteArray) (e : TypeId) : St w x t (w.alloc (.cells #[.string x, .string t] e)) :=
  ⟨(Below.refl _ _).alloc (Nat.le_refl _) _, by simp, by rw [World.cell?_alloc_at _ _ _ _ rfl]; rfl, by rw [World.cell?_alloc_at _ _ _ _ rfl]; rfl⟩
theorem below_drewN' {B : Nat} {a w : World} (h : Below B a w) (n : Nat) : Below B a (w.drewN n) := ⟨h.os, h.tape, h.output, h.size, h.block⟩

theorem rises_nil : Rises [] := List.Pairwise.nil
theorem rises_at {l : List F} (h : Rises l) {j : Nat} {f g : F} (hf : l[j]? = some f) (hg : l[j + 1]? = some g) : lt f.1 g.1 = true := by
  obtain ⟨h1, rfl⟩ := List.getElem?_eq_some_iff.1 hf
  obtain ⟨h2, rfl⟩ := List.getElem?_eq_some_iff.1 hg
  exact List.pairwise_iff_getElem.1 h j (j + 1) h1 h2 (by omega)
def LoopRel (m : List F) (w7 : World) (i : Value) (wr : World) : Prop := ∃ k : Nat, 1 ≤ k ∧ k ≤ m.length ∧ i = .int .i64 k ∧ ∃ q, wr = w7.drewN q

set_option maxHeartbeats 4000000 in
set_option maxRecDepth 100000 in
theorem topFiles_any (A : Option Addr) (n c : Nat) (l : List F) (x t y : ByteArray) (w : World) (h : RdF w w.heap.size A n c l) :
    Calls Try.prog 5 #[.slice A n c, .agg #[.string x, .string t], .string y] w fun e w' => e = .returned (.bool true) ∧ Below w.heap.size w w' := by
  have HR := Lib.hid h
  clear h
  have st0 := St.start w x t 24
  go_enter Try.func5, Try.ntmps5
  go_wp2_with fail
  generalize w.alloc (.cells #[.string x, .string t] 24) = w0 at *
  refine (put_any none 0 0 [] _ _ w0 (RdF.nil _ _) rises_nil (by omega)).mono ?_
  rintro e w1 ⟨v1, rfl, hown1, hb1⟩
  obtain ⟨A1, k1, rfl, hr1⟩ := RdF.of_own hown1
  have st1 := st0.step hb1
  clear hown1 st0 hb1
  have HR1 := Lib.hid hr1
  clear hr1
  have e1 : (putF [] (({ data := #[97] } : ByteArray), ({ data := #[120] } : ByteArray))).length = 1 := rfl
  rw [e1]
  go_wp2_with fail
  refine (drop_any A1 1 k1 (putF [] (({ data := #[97] } : ByteArray), ({ data := #[120] } : ByteArray))) _ w1 HR1.out (rises_put rises_nil _) (by omega)).mono ?_
  rintro e w2 ⟨v2, rfl, hown2, hb2⟩
  obtain ⟨A2, k2, rfl, _⟩ := RdF.of_own hown2
  have st2 := st1.step hb2
  have e2 : (dropF (putF [] (({ data := #[97] } : ByteArray), ({ data := #[120] } : ByteArray))) { data := #[97] }).length = 0 := by
    have := drop_put [] (({ data := #[97] } : ByteArray), ({ data := #[120] } : ByteArray))
    rw [show (({ data := #[97] } : ByteArray), ({ data := #[120] } : ByteArray)).1 = ({ data := #[97] } : ByteArray) from rfl] at this
    rw [this]; rfl
  rw [e2]
  clear hown2 st1 hb2 HR1 e1 e2
  go_wp2_with fail
  have hr2 := (HR.out.below st2.b).more st2.b.size
  refine (light_any A n c l w2 hr2).mono ?_
  rintro e w3 ⟨b, rfl, hlit, q, rfl⟩
  have st3 := st2.drewN q
  have hr3 : RdF (w2.drewN q) (w2.drewN q).heap.size A n c l := hr2.drewN q
  have HR3 := Lib.hid hr3
  clear hr3
  clear hr2 st2 HR
  generalize w2.drewN q = w3 at *
  have c0 := st3.c0
  have c1 := st3.c1
  cases b with
  | false =>
    clear hlit
    go_wp2
    go_ret
    exact ⟨rfl, st3.b⟩
  | true =>
    obtain ⟨h24, hrise, _⟩ := hlit rfl
    clear hlit
    by_cases h1 : 20 < x.size
    · have t1 : (20 : Int) < (x.size : Int) := by omega
      go_wp2
      go_ret
      exact ⟨rfl, st3.b⟩
    have t1 : decide ((20 : Int) < (x.size : Int)) = false := decide_eq_false (by omega)
    by_cases h2 : 60 < t.size
    · have t2 : (60 : Int) < (t.size : Int) := by omega
      go_wp2
      go_ret
      exact ⟨rfl, st3.b⟩
    have t2 : decide ((60 : Int) < (t.size : Int)) = false := decide_eq_false (by omega)
    by_cases h3 : 20 < y.size
    · have t3 : (20 : Int) < (y.size : Int) := by omega
      go_wp2
      go_ret
      exact ⟨rfl, st3.b⟩
    have t3 : decide ((20 : Int) < (y.size : Int)) = false := decide_eq_false (by omega)
    have hln : l.length = n := HR3.out.1
    have HL := Lib.hid hln
    rw [hln] at h24
    clear hln
    go_wp2_with fail
    clear t1 t2 t3
    refine (put_any A n c l x t w3 HR3.out hrise (by omega)).mono ?_
    rintro e w4 ⟨v4, rfl, hown4, hb4⟩
    obtain ⟨A4, k4, rfl, hr4⟩ := RdF.of_own hown4
    have st4 := st3.step hb4
    have HR4 := Lib.hid (HR3.out.belowS hb4)
    clear hown4 st3 hb4 HR3 c0 c1
    have hle4 := len_put_le hrise (x, t)
    rw [HL.out] at hle4
    have RM := rises_put hrise (x, t)
    have m1 := has_put hrise (x, t)
    have m2 := text_put hrise (x, t)
    have m3 := fun hne => has_put_other hrise (x, t) (x := y) hne
    have m4 := fun hne => text_put_other hrise (x, t) (x := y) hne
    have m5 := has_drop (putF l (x, t)) x
    have m6 := len_put_drop (putF l (x, t)) (x, t)
    have m7 := put_drop (putF l (x, t)) (x, t)
    rw [put_put] at m6 m7
    generalize putF l (x, t) = m at *
    have HM1 := Lib.hid m1
    have HM2 := Lib.hid m2
    have HM3 := Lib.hid m3
    have HM4 := Lib.hid m4
    have HM5 := Lib.hid m5
    have HM6 := Lib.hid m6
    have HM7 := Lib.hid m7
    have HRM := Lib.hid hr4
    clear m1 m2 m3 m4 m5 m6 m7 hr4
    have c0 := st4.c0
    have c1 := st4.c1
    go_wp2_with fail
    refine (get_any A4 m.length k4 m x w4 HRM.out RM (by omega)).mono ?_
    rintro e w5 ⟨rfl, hb5⟩
    rw [show has m x = true from HM1.out, show textF m x = t from HM2.out]
    have st5 := st4.step hb5
    have HR5 := Lib.hid (HR4.out.belowS hb5)
    have HRM5 := Lib.hid (HRM.out.belowS hb5)
    clear st4 hb5 HR4 HRM c0 c1
    go_wp2_with fail
    refine (get_any A n c l y w5 HR5.out hrise (by omega)).mono ?_
    rintro e w6 ⟨rfl, hb6⟩
    have st6 := st5.step hb6
    have HRM6 := Lib.hid (HRM5.out.belowS hb6)
    clear st5 hb6 HR5 HRM5
    go_wp2_with fail
    refine (get_any A4 m.length k4 m y w6 HRM6.out RM (by omega)).mono ?_
    rintro e w7 ⟨rfl, hb7⟩
    have st7 := st6.step hb7
    have HRM7 := Lib.hid (HRM6.out.belowS hb7)
    clear st6 hb7 HRM6
    have c0 := st7.c0
    have c1 := st7.c1
    have hpos : 1 ≤ m.length := by have := HM6.out; omega
    cases hyx : (y.toList == x.toList) with
    | true =>
      have HYX := Lib.hid True.intro
      go_wp2
      go_loopw [15] (fun i wr => LoopRel m w7 i wr) (fun i _ => m.length - (intOf i).toNat)
      case atStart => exact ⟨1, by omega, hpos, rfl, 0, rfl⟩
      case round =>
        obtain ⟨k, hk0, hk, rfl, q, rfl⟩ := hrel
        by_cases hlt : k < m.length
        · obtain ⟨f, hf⟩ : ∃ f, m[k]? = some f := ⟨_, List.getElem?_eq_getElem hlt⟩
          obtain ⟨j, rfl⟩ : ∃ j, k = j + 1 := ⟨k - 1, by omega⟩
          obtain ⟨g, hg⟩ : ∃ g, m[j]? = some g := ⟨_, List.getElem?_eq_getElem (by omega)⟩
          have hlg := rises_at RM hg hf
          obtain ⟨b, off, rfl, _, hcells⟩ := HRM7.out.cells (by omega)
          have hc1 := (hcells _ f hf).1
          have hc2 := (hcells _ g hg).1
          clear hcells hf hg
          have hkz : (j : Int) < (m.length : Int) := by omega
          have hkz1 : (j : Int) + 1 < (m.length : Int) := by omega
          have ht : (Op.bytesLess f.1.toList g.1.toList || f.1.toList == g.1.toList) = false := by
            have e1 := lt_asymm hlg
            have e2 := lt_ne hlg
            rw [Bool.or_eq_false_iff]
            refine ⟨e1, ?_⟩
            rw [beq_eq_false_iff_ne]
            exact fun e => e2 (toList_inj e).symm
          clear hlg
          generalize f.1 = fx at *
          generalize g.1 = gx at *
          go_wp2
          go_quiet (fail)
          go_wp2
          go_roundw
          case rel => exact ⟨j + 1 + 1, by omega, by omega, by go_num, by first | exact ⟨_, rfl⟩ | exact ⟨_, World.drewN_drewN _ _ _⟩⟩
          case measure => simp [intOf]; omega
        · obtain rfl : k = m.length := by omega
          have st8 := st7.drewN q
          have hr8 : RdF (w7.drewN q) (w7.drewN q).heap.size A4 m.length k4 m := HRM7.out.drewN q
          have HRM8 := Lib.hid hr8
          clear hr8 HRM7 st7 c0 c1
          generalize w7.drewN q = w8 at *
          have c0 := st8.c0
          have c1 := st8.c1
          have hm6 := HM6.out
          have HN6 := Lib.hid hm6
          have hdl : (dropF m x).length ≤ 25 := by have e6 : m.length = (dropF m x).length + 1 := hm6; omega
          clear hm6
          go_wp2_with fail
          refine (drop_any A4 m.length k4 m x w8 HRM8.out RM (by omega)).mono ?_
          rintro e w9 ⟨v9, rfl, hown9, hb9⟩
          obtain ⟨A9, k9, rfl, hr9⟩ := RdF.of_own hown9
          have st9 := st8.step hb9
          have HRM9 := Lib.hid (HRM8.out.belowS hb9)
          have HD9 := Lib.hid hr9
          clear hown9 st8 hb9 HRM8 c0 c1 hr9
          have RD := rises_drop RM x
          have h7 : putF (dropF m x) (x, t) = m := HM7.out
          have h5 : has (dropF m x) x = false := HM5.out
          have h6 : m.length = (dropF m x).length + 1 := HN6.out
          generalize dropF m x = d at *
          have H5 := Lib.hid h5
          have H7 := Lib.hid h7
          have htl : ((d.length : Int) == (m.length : Int) - 1) = true := by rw [beq_iff_eq]; omega
          clear h5 h6 h7
          have c0 := st9.c0
          have c1 := st9.c1
          go_wp2_with fail
          refine (get_any A9 d.length k9 d x w9 HD9.out RD (by omega)).mono ?_
          rintro e w10 ⟨rfl, hb10⟩
          rw [H5.out]
          have st10 := st9.step hb10
          have HRM10 := Lib.hid (HRM9.out.belowS hb10)
          have HD10 := Lib.hid (HD9.out.belowS hb10)
          clear st9 hb10 HRM9 HD9 c0 c1
          have c0 := st10.c0
          have c1 := st10.c1
          go_wp2_with fail
          refine (put_any A9 d.length k9 d x t w10 HD10.out RD (by omega)).mono ?_
          rintro e w11 ⟨v11, rfl, hown11, hb11⟩
          rw [H7.out] at hown11
          obtain ⟨A11, k11, rfl, hr11⟩ := RdF.of_own hown11
          have st11 := st10.step hb11
          have HRM11 := Lib.hid (HRM10.out.belowS hb11)
          have HP11 := Lib.hid hr11
          clear hown11 st10 hb11 HRM10 HD10 c0 c1 hr11 htl
          go_wp2_with fail
          refine (same_any A11 A4 m.length k11 k4 m w11 HP11.out HRM11.out).mono ?_
          rintro e w12 ⟨rfl, q12, rfl⟩
          have st12 := st11.drewN q12
          clear HP11 HRM11 st11
          generalize w11.drewN q12 = w12 at *
          go_wp2
          go_ret
          exact ⟨rfl, st12.b⟩
    | false =>
      have hne : y ≠ x := by rintro rfl; simp at hyx
      rw [HM3.out hne, HM4.out hne]
      go_wp2
      go_loopw [15] (fun i wr => LoopRel m w7 i wr) (fun i _ => m.length - (intOf i).toNat)
      case atStart => exact ⟨1, by omega, hpos, rfl, 0, rfl⟩
      case round =>
        obtain ⟨k, hk0, hk, rfl, q, rfl⟩ := hrel
        by_cases hlt : k < m.length
        · obtain ⟨f, hf⟩ : ∃ f, m[k]? = some f := ⟨_, List.getElem?_eq_getElem hlt⟩
          obtain ⟨j, rfl⟩ : ∃ j, k = j + 1 := ⟨k - 1, by omega⟩
          obtain ⟨g, hg⟩ : ∃ g, m[j]? = some g := ⟨_, List.getElem?_eq_getElem (by omega)⟩
          have hlg := rises_at RM hg hf
          obtain ⟨b, off, rfl, _, hcells⟩ := HRM7.out.cells (by omega)
          have hc1 := (hcells _ f hf).1
          have hc2 := (hcells _ g hg).1
          clear hcells hf hg
          have hkz : (j : Int) < (m.length : Int) := by omega
          have hkz1 : (j : Int) + 1 < (m.length : Int) := by omega
          have ht : (Op.bytesLess f.1.toList g.1.toList || f.1.toList == g.1.toList) = false := by
            have e1 := lt_asymm hlg
            have e2 := lt_ne hlg
            rw [Bool.or_eq_false_iff]
            refine ⟨e1, ?_⟩
            rw [beq_eq_false_iff_ne]
            exact fun e => e2 (toList_inj e).symm
          clear hlg
          generalize f.1 = fx at *
          generalize g.1 = gx at *
          go_wp2
          go_quiet (fail)
          go_wp2
          go_roundw
          case rel => exact ⟨j + 1 + 1, by omega, by omega, by go_num, by first | exact ⟨_, rfl⟩ | exact ⟨_, World.drewN_drewN _ _ _⟩⟩
          case measure => simp [intOf]; omega
        · obtain rfl : k = m.length := by omega
          have st8 := st7.drewN q
          have hr8 : RdF (w7.drewN q) (w7.drewN q).heap.size A4 m.length k4 m := HRM7.out.drewN q
          have HRM8 := Lib.hid hr8
          clear hr8 HRM7 st7 c0 c1
          generalize w7.drewN q = w8 at *
          have c0 := st8.c0
          have c1 := st8.c1
          have hm6 := HM6.out
          have HN6 := Lib.hid hm6
          have hdl : (dropF m x).length ≤ 25 := by have e6 : m.length = (dropF m x).length + 1 := hm6; omega
          clear hm6
          go_wp2_with fail
          refine (drop_any A4 m.length k4 m x w8 HRM8.out RM (by omega)).mono ?_
          rintro e w9 ⟨v9, rfl, hown9, hb9⟩
          obtain ⟨A9, k9, rfl, hr9⟩ := RdF.of_own hown9
          have st9 := st8.step hb9
          have HRM9 := Lib.hid (HRM8.out.belowS hb9)
          have HD9 := Lib.hid hr9
          clear hown9 st8 hb9 HRM8 c0 c1 hr9
          have RD := rises_drop RM x
          have h7 : putF (dropF m x) (x, t) = m := HM7.out
          have h5 : has (dropF m x) x = false := HM5.out
          have h6 : m.length = (dropF m x).length + 1 := HN6.out
          generalize dropF m x = d at *
          have H5 := Lib.hid h5
          have H7 := Lib.hid h7
          have htl : ((d.length : Int) == (m.length : Int) - 1) = true := by rw [beq_iff_eq]; omega
          clear h5 h6 h7
          have c0 := st9.c0
          have c1 := st9.c1
          go_wp2_with fail
          refine (get_any A9 d.length k9 d x w9 HD9.out RD (by omega)).mono ?_
          rintro e w10 ⟨rfl, hb10⟩
          rw [H5.out]
          have st10 := st9.step hb10
          have HRM10 := Lib.hid (HRM9.out.belowS hb10)
          have HD10 := Lib.hid (HD9.out.belowS hb10)
          clear st9 hb10 HRM9 HD9 c0 c1
          have c0 := st10.c0
          have c1 := st10.c1
          go_wp2_with fail
          refine (put_any A9 d.length k9 d x t w10 HD10.out RD (by omega)).mono ?_
          rintro e w11 ⟨v11, rfl, hown11, hb11⟩
          rw [H7.out] at hown11
          obtain ⟨A11, k11, rfl, hr11⟩ := RdF.of_own hown11
          have st11 := st10.step hb11
          have HRM11 := Lib.hid (HRM10.out.belowS hb11)
          have HP11 := Lib.hid hr11
          clear hown11 st10 hb11 HRM10 HD10 c0 c1 hr11 htl
          go_wp2_with fail
          refine (same_any A11 A4 m.length k11 k4 m w11 HP11.out HRM11.out).mono ?_
          rintro e w12 ⟨rfl, q12, rfl⟩
          have st12 := st11.drewN q12
          clear HP11 HRM11 st11
          generalize w11.drewN q12 = w12 at *
          go_wp2
          go_ret
          exact ⟨rfl, st12.b⟩
end Go.Proofs.Ytmadegpbinnnfaa
