/-
  WALK: hammerpondlaw.makes and hammerpondlaw.MakefileSays: for all texts the call returns true, and nothing that was there has turned.
-/
import Derived.Test.YtkkoflbeggdblaaDoorMakeOf
namespace Go.Proofs.YtkkoflbeggdblaaDoor
open Go.RowKit

def makes0 : ByteArray := ⟨#[65, 32, 61, 32, 120, 10, 98, 32, 58, 32, 97, 10, 9, 99, 111, 112, 121, 32, 97, 32, 98, 10]⟩
def copyAB : ByteArray := ⟨#[99, 111, 112, 121, 32, 97, 32, 98]⟩
set_option maxRecDepth 100000 in
theorem parse_makes : (parseR makes0).1 = 0 ∧ (parseR makes0).2.vars.length = 1 ∧ (parseR makes0).2.rules.length = 1 ∧ (parseR makes0).2.rules[0]?.map (fun u => u.2.2) = some [copyAB] := by decide +kernel
theorem linesR_sane2 (l : List ByteArray) (h : ∀ x ∈ l, x.size ≤ 600) : ∀ (m : Mk) (k : Nat), Sane m k → Sane (linesR m l).2 (k + l.length) := by
  induction l with
  | nil => intro m k hs; exact hs
  | cons x l ih =>
    intro m k hs
    have h1 := hs.line x (h x (by simp))
    rw [linesR]
    split
    · have := ih (fun y hy => h y (by simp [hy])) _ _ h1
      simpa [Nat.add_assoc, Nat.add_comm 1] using this
    · exact h1.mono (by simp)
theorem parse_sane2 (s : ByteArray) : Sane (parseR s).2 700 := by
  unfold parseR
  split
  · exact sane0.mono (by omega)
  · rename_i h6
    split
    · exact sane0.mono (by omega)
    · split
      · have h1 := linesR_sane2 (lines s) (fun x hx => by have := lines_size hx; omega) mk0 0 sane0
        have h2 := lines_len s
        exact h1.mono (by omega)
      · exact sane0.mono (by omega)
theorem parse_ok {s : ByteArray} (h : (parseR s).1 = 0) : checkR (parseR s).2 = true := by
  unfold parseR at h ⊢
  split at h
  · simp at h
  · rename_i h6
    rw [if_neg h6]
    split at h
    · rename_i h1; exact absurd h h1
    · rename_i h1
      rw [if_neg h1]
      split at h
      · rename_i h2; rw [if_pos h2]; exact h2
      · simp at h

set_option maxHeartbeats 4000000 in
set_option maxRecDepth 100000 in
theorem makes_any (w : World) (hm : MaxOk w) : Calls Tryd.prog 25 #[] w fun e w' => e = .returned (.bool true) ∧ Below w.heap.size w w' := by
  have HM := Lib.hid hm
  clear hm
  go_enter Tryd.func25, Tryd.ntmps25
  go_wp2_with fail
  refine (parse_any makes0 w HM.out (by decide)).mono ?_
  rintro e w1 ⟨vv, vr, vp, R, rfl, hmo, hb1⟩
  rw [show errV ((parseR makes0).1 : Int) = .nilIface by rw [parse_makes.1]; rfl]
  obtain ⟨Av, cv, rfl⟩ := own_slice hmo.vars
  obtain ⟨Ar, cr, rfl⟩ := own_slice hmo.rules
  obtain ⟨Ap, cp, rfl⟩ := own_slice hmo.phony
  have hR1 : R.length = 1 := by rw [hmo.len]; exact parse_makes.2.2.1
  obtain ⟨x, hx⟩ : ∃ x, R[0]? = some x := ⟨_, List.getElem?_eq_getElem (by rw [hR1]; decide)⟩
  obtain ⟨u, hu, hu2⟩ : ∃ u, (parseR makes0).2.rules[0]? = some u ∧ u.2.2 = [copyAB] := by
    have := parse_makes.2.2.2
    revert this
    cases (parseR makes0).2.rules[0]? with
    | none => intro h; simp at h
    | some u => intro h; exact ⟨u, rfl, by simpa using h⟩
  obtain ⟨s1, s2, s3⟩ := hmo.rd.each 0 x u hx hu
  rw [hu2] at s3
  obtain ⟨A3, c3, e3, hr3⟩ := s3
  obtain ⟨A4, c4, e4, hr4⟩ := hmo.rd.rules
  obtain ⟨b, off, rfl, hbb, g0, g1, g2⟩ := hr4.at_ hx
  simp only [Value.slice.injEq, true_and] at e4
  obtain ⟨rfl, rfl⟩ := e4
  rw [hR1, parse_makes.2.1]
  rw [e3] at g2
  have g2 : w1.cell? ⟨b, off + 2, none⟩ = some (.slice A3 1 c3) := g2
  have hr3 : RdS w1 w1.heap.size A3 1 c3 [copyAB] := hr3
  have HRS := Lib.hid hr3
  have HB1 := Lib.hid hb1
  clear hmo hb1 hR1 hx hu hu2 s1 s2 e3 hr3 hr4
  generalize (parseR makes0).2.phony.length = np at *
  have hba : Below w1.heap.size w1 (w1.alloc (.cells #[.slice Av 1 cv, .slice (some ⟨b, off, none⟩) 1 cr, .slice Ap np cp] 61)) := (Below.refl _ _).alloc (Nat.le_refl _) _
  have q0 : (w1.alloc (.cells #[.slice Av 1 cv, .slice (some ⟨b, off, none⟩) 1 cr, .slice Ap np cp] 61)).cell? ⟨w1.heap.size, 0, none⟩ = some (.slice Av 1 cv) := by rw [World.cell?_alloc_at _ _ _ _ rfl]; rfl
  have q1 : (w1.alloc (.cells #[.slice Av 1 cv, .slice (some ⟨b, off, none⟩) 1 cr, .slice Ap np cp] 61)).cell? ⟨w1.heap.size, 1, none⟩ = some (.slice (some ⟨b, off, none⟩) 1 cr) := by rw [World.cell?_alloc_at _ _ _ _ rfl]; rfl
  have q2 := (hba.cell (p := ⟨b, off + 2, none⟩) hbb).trans g2
  have HR2 := Lib.hid (HRS.out.belowS hba)
  have HB2 := Lib.hid (HB1.out.trans (hba.mono HB1.out.size))
  clear hba HRS g0 g1 g2
  go_wp2_with fail
  generalize w1.alloc (.cells #[.slice Av 1 cv, .slice (some ⟨b, off, none⟩) 1 cr, .slice Ap np cp] 61) = w2 at *
  refine (same_nil w2).mono ?_
  rintro e w2' ⟨rfl, rfl⟩
  go_wp2_with fail
  have hba2 : Below w2.heap.size w2 (w2.alloc (.cells #[.string copyAB] 9)) := (Below.refl _ _).alloc (Nat.le_refl _) _
  have hnew : RdS (w2.alloc (.cells #[.string copyAB] 9)) (w2.alloc (.cells #[.string copyAB] 9)).heap.size (some ⟨w2.heap.size, 0, none⟩) 1 1 [copyAB] :=
    ⟨rfl, Nat.le_refl _, by decide, fun _ => ⟨w2.heap.size, 0, rfl, by simp, fun j u hu => by
      cases j with
      | zero =>
        obtain rfl : copyAB = u := by simpa using hu
        rw [World.cell?_alloc_at _ _ _ _ rfl]
        rfl
      | succ j => simp at hu⟩⟩
  have HR3 := Lib.hid (HR2.out.belowS hba2)
  have HB3 := Lib.hid (HB2.out.trans (hba2.mono HB2.out.size))
  refine (sameTexts_any _ _ 1 c3 1 [copyAB] _ HR3.out hnew).mono ?_
  rintro e w4 ⟨rfl, q, rfl⟩
  have HB4 := Lib.hid (show Below w.heap.size w ((w2.alloc (.cells #[.string copyAB] 9)).drewN q) from ⟨HB3.out.os, HB3.out.tape, HB3.out.output, HB3.out.size, HB3.out.block⟩)
  clear hba2 hnew
  go_wp2
  go_ret
  exact ⟨rfl, HB4.out⟩

set_option maxHeartbeats 4000000 in
set_option maxRecDepth 100000 in
theorem makefileSays_any (s : ByteArray) (w : World) (hz : s.size ≤ 9223372036854775807) (hm : MaxOk w) :
    Calls Tryd.prog 7 #[.string s] w fun e w' => e = .returned (.bool true) ∧ Below w.heap.size w w' := by
  have HM := Lib.hid hm
  clear hm
  go_enter Tryd.func7, Tryd.ntmps7
  go_wp2_with fail
  refine (makes_any w HM.out).mono ?_
  rintro e w0 ⟨rfl, hb0⟩
  have HM0 := Lib.hid (HM.out.below hb0)
  have HB0 := Lib.hid hb0
  clear hb0 HM
  by_cases h8 : 800 < s.size
  · have t : (800 : Int) < (s.size : Int) := by omega
    go_wp2
    go_ret
    exact ⟨rfl, HB0.out⟩
  have t8 : decide ((800 : Int) < (s.size : Int)) = false := decide_eq_false (by omega)
  go_wp2_with fail
  refine (parse_any s w0 HM0.out hz).mono ?_
  unfold PaPost
  obtain ⟨r, hr⟩ : ∃ r, r = parseR s := ⟨_, rfl⟩
  rw [← hr]
  have HR := Lib.hid hr
  clear hr
  rintro e w1 ⟨vv, vr, vp, R, rfl, hmo, hb1⟩
  obtain ⟨Av, cv, rfl⟩ := own_slice hmo.vars
  obtain ⟨Ar, cr, rfl⟩ := own_slice hmo.rules
  obtain ⟨Ap, cp, rfl⟩ := own_slice hmo.phony
  generalize hn1 : r.2.vars.length = n1 at *
  generalize hn2 : R.length = n2 at *
  generalize hn3 : r.2.phony.length = n3 at *
  have hba : Below w1.heap.size w1 (w1.alloc (.cells #[.slice Av n1 cv, .slice Ar n2 cr, .slice Ap n3 cp] 61)) := (Below.refl _ _).alloc (Nat.le_refl _) _
  have k2 : (w1.alloc (.cells #[.slice Av n1 cv, .slice Ar n2 cr, .slice Ap n3 cp] 61)).heap[w1.heap.size]? = some (.cells #[.slice Av n1 cv, .slice Ar n2 cr, .slice Ap n3 cp] 61 (0, 0)) := World.alloc_heap_new _ _
  have hs2 : (w1.alloc (.cells #[.slice Av n1 cv, .slice Ar n2 cr, .slice Ap n3 cp] 61)).heap.size = w1.heap.size + 1 := by simp
  have HQ := Lib.hid ((hmo.rd).belowS hba)
  have HB2 := Lib.hid ((HB0.out.trans (hb1.mono HB0.out.size)).trans (hba.mono (Nat.le_trans HB0.out.size hb1.size)))
  have HK2 := Lib.hid k2
  have HS2 := Lib.hid hs2
  have HN1 := Lib.hid hn1
  have HN2 := Lib.hid hn2
  have HN3 := Lib.hid hn3
  clear hmo hb1 hba k2 hs2 hn1 hn2 hn3 HB0 HM0
  go_wp2_with fail
  generalize w1.alloc (.cells #[.slice Av n1 cv, .slice Ar n2 cr, .slice Ap n3 cp] 61) = w2 at *
  refine (makeOf_any s w2 hz).mono ?_
  unfold MoPost
  rw [← HR.out]
  rintro e w3 ⟨vv, vr, vp, R2, rfl, hmd, hb3⟩
  have hmd0 := hmd
  obtain ⟨Av2, cv2, rfl, _⟩ := hmd.vars
  obtain ⟨Ar2, cr2, rfl, _⟩ := hmd.rules
  obtain ⟨Ap2, cp2, rfl, _⟩ := hmd.phony
  clear hmd
  generalize hm1 : r.2.vars.length = m1 at *
  generalize hm2 : R2.length = m2 at *
  generalize hm3 : r.2.phony.length = m3 at *
  have hba : Below w3.heap.size w3 (w3.alloc (.cells #[.slice Av2 m1 cv2, .slice Ar2 m2 cr2, .slice Ap2 m3 cp2] 61)) := (Below.refl _ _).alloc (Nat.le_refl _) _
  have hl2 : w1.heap.size < w2.heap.size := by rw [HS2.out]; omega
  have hl3 : w1.heap.size < w3.heap.size := Nat.lt_of_lt_of_le hl2 hb3.size
  have k4 := (hba.block _ hl3).trans ((hb3.block _ hl2).trans HK2.out)
  have o0 : (w3.alloc (.cells #[.slice Av2 m1 cv2, .slice Ar2 m2 cr2, .slice Ap2 m3 cp2] 61)).cell? ⟨w1.heap.size, 0, none⟩ = some (.slice Av n1 cv) := by simp only [World.cell?]; rw [k4]; rfl
  have o1 : (w3.alloc (.cells #[.slice Av2 m1 cv2, .slice Ar2 m2 cr2, .slice Ap2 m3 cp2] 61)).cell? ⟨w1.heap.size, 1, none⟩ = some (.slice Ar n2 cr) := by simp only [World.cell?]; rw [k4]; rfl
  have o2 : (w3.alloc (.cells #[.slice Av2 m1 cv2, .slice Ar2 m2 cr2, .slice Ap2 m3 cp2] 61)).cell? ⟨w1.heap.size, 2, none⟩ = some (.slice Ap n3 cp) := by simp only [World.cell?]; rw [k4]; rfl
  have p0 : (w3.alloc (.cells #[.slice Av2 m1 cv2, .slice Ar2 m2 cr2, .slice Ap2 m3 cp2] 61)).cell? ⟨w3.heap.size, 0, none⟩ = some (.slice Av2 m1 cv2) := by rw [World.cell?_alloc_at _ _ _ _ rfl]; rfl
  have p1 : (w3.alloc (.cells #[.slice Av2 m1 cv2, .slice Ar2 m2 cr2, .slice Ap2 m3 cp2] 61)).cell? ⟨w3.heap.size, 1, none⟩ = some (.slice Ar2 m2 cr2) := by rw [World.cell?_alloc_at _ _ _ _ rfl]; rfl
  have p2 : (w3.alloc (.cells #[.slice Av2 m1 cv2, .slice Ar2 m2 cr2, .slice Ap2 m3 cp2] 61)).cell? ⟨w3.heap.size, 2, none⟩ = some (.slice Ap2 m3 cp2) := by rw [World.cell?_alloc_at _ _ _ _ rfl]; rfl
  have HQ1 := Lib.hid ((HQ.out.belowS hb3).belowS hba)
  have HQ2 := Lib.hid (hmd0.belowS hba)
  have HB4 := Lib.hid ((HB2.out.trans (hb3.mono HB2.out.size)).trans (hba.mono (Nat.le_trans HB2.out.size hb3.size)))
  have HK4 := Lib.hid k4
  have hl4 : w1.heap.size < (w3.alloc (.cells #[.slice Av2 m1 cv2, .slice Ar2 m2 cr2, .slice Ap2 m3 cp2] 61)).heap.size := Nat.lt_of_lt_of_le hl3 hba.size
  clear hmd0 hb3 hba k4 HQ HB2 HK2 hl2 hl3 hm1 hm2 hm3
  go_wp2_with fail
  generalize w3.alloc (.cells #[.slice Av2 m1 cv2, .slice Ar2 m2 cr2, .slice Ap2 m3 cp2] 61) = w4 at *
  refine (same_errV (r.1 : Int) (by omega) w4).mono ?_
  rintro e w4' ⟨rfl, rfl⟩
  go_wp2_with fail
  refine (sameMake_any r.2 _ _ _ _ _ _ R R2 w4 HQ1.out HQ2.out ?_ ?_).mono ?_
  · have := (parse_sane2 s).vars; rw [HR.out]; omega
  · have := (parse_sane2 s).rules; rw [HR.out]; omega
  rintro e w5 ⟨rfl, hb5⟩
  have k5 := (hb5.block _ hl4).trans HK4.out
  have o0' : w5.cell? ⟨w1.heap.size, 0, none⟩ = some (.slice Av n1 cv) := by simp only [World.cell?]; rw [k5]; rfl
  have o1' : w5.cell? ⟨w1.heap.size, 1, none⟩ = some (.slice Ar n2 cr) := by simp only [World.cell?]; rw [k5]; rfl
  have o2' : w5.cell? ⟨w1.heap.size, 2, none⟩ = some (.slice Ap n3 cp) := by simp only [World.cell?]; rw [k5]; rfl
  have HQ5 := Lib.hid (HQ1.out.belowS hb5)
  have HB5 := Lib.hid (HB4.out.trans (hb5.mono HB4.out.size))
  clear hb5 k5 HQ1 HQ2 HB4 HK4 hl4 o0 o1 o2 p0 p1 p2
  by_cases h0 : r.1 = 0
  · have hck : checkR r.2 = true := by rw [HR.out] at h0 ⊢; exact parse_ok h0
    have HCK := Lib.hid hck
    have HS := Lib.hid (show Sane r.2 700 by rw [HR.out]; exact parse_sane2 s)
    have d0 : decide ((0 : Int) < (r.1 : Int)) = false := decide_eq_false (by omega)
    clear hck
    go_wp2_with fail
    refine (check_any r.2 _ _ _ R w5 HQ5.out ?_ ?_ ?_ ?_).mono ?_
    · have := HS.out.phony; omega
    · have := HS.out.rules; omega
    · exact HS.out.names
    · intro u hu
      have h1 := HS.out.cmds u hu
      exact ⟨by omega, by omega, HS.out.words u hu⟩
    rintro e w6 ⟨rfl, hb6⟩
    rw [show errV (ckN (checkR r.2) : Int) = .nilIface by rw [HCK.out]; rfl]
    have HB6 := Lib.hid (HB5.out.trans (hb6.mono HB5.out.size))
    clear hb6
    go_wp2_with fail
    refine (same_nil w6).mono ?_
    rintro e w6' ⟨rfl, rfl⟩
    go_wp2
    go_ret
    exact ⟨rfl, HB6.out⟩
  · have d0 : (0 : Int) < (r.1 : Int) := by omega
    go_wp2
    go_ret
    exact ⟨rfl, HB5.out⟩
end Go.Proofs.YtkkoflbeggdblaaDoor
