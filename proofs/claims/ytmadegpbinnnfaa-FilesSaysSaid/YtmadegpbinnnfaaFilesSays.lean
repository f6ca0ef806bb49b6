/-
  THE WALK OF hammerpondlaw.FilesSays: for every slice that reads as files and every file the call returns true, and nothing that was there has turned.
-/
import Derived.Test.YtmadegpbinnnfaaTopFiles
import Derived.Test.YtmadegpbinnnfaaRefPut
import Derived.Deep.RegionHeld3
namespace Go.Proofs.Ytmadegpbinnnfaa
open Go.RowKit

theorem nameB_ac : nameB ⟨#[97, 46, 99]⟩ = true := by decide

set_option maxHeartbeats 1000000 in
theorem filed_any (w : World) : Calls Try.prog 6 #[] w fun e w' => e = .returned (.bool true) ∧ Below w.heap.size w w' := by
  go_enter Try.func6, Try.ntmps6
  go_wp2_with fail
  refine (put_any none 0 0 [] _ _ w (RdF.nil _ _) rises_nil (by omega)).mono ?_
  rintro e w1 ⟨v1, rfl, hown1, hb1⟩
  obtain ⟨A1, k1, rfl, hr1⟩ := RdF.of_own hown1
  have RM := rises_put rises_nil (({ data := #[97, 46, 99] } : ByteArray), ({ data := #[120] } : ByteArray))
  have m1 := has_put rises_nil (({ data := #[97, 46, 99] } : ByteArray), ({ data := #[120] } : ByteArray))
  have m2 := text_put rises_nil (({ data := #[97, 46, 99] } : ByteArray), ({ data := #[120] } : ByteArray))
  have e1 : (putF [] (({ data := #[97, 46, 99] } : ByteArray), ({ data := #[120] } : ByteArray))).length = 1 := rfl
  rw [e1] at hr1 ⊢
  have HR1 := Lib.hid hr1
  have M1 := Lib.hid m1
  have M2 := Lib.hid m2
  clear hr1 hown1 m1 m2 e1
  go_wp2_with fail
  refine (get_any A1 1 k1 _ _ w1 HR1.out RM (by omega)).mono ?_
  rintro e w2 ⟨rfl, hb2⟩
  rw [show has (putF [] (({ data := #[97, 46, 99] } : ByteArray), ({ data := #[120] } : ByteArray))) { data := #[97, 46, 99] } = true from M1.out, show textF (putF [] (({ data := #[97, 46, 99] } : ByteArray), ({ data := #[120] } : ByteArray))) { data := #[97, 46, 99] } = { data := #[120] } from M2.out]
  have hb : Below w.heap.size w w2 := hb1.trans (hb2.mono hb1.size)
  clear M1 M2 HR1 RM
  go_wp2_with fail
  refine (name_any _ _ (by decide)).mono ?_
  rintro e w3 ⟨rfl, rfl⟩
  rw [nameB_ac]
  go_wp2
  go_ret
  exact ⟨rfl, hb⟩

set_option maxHeartbeats 4000000 in
set_option maxRecDepth 100000 in
theorem filesSays_any (A : Option Addr) (n c : Nat) (l : List F) (x t : ByteArray) (w : World) (h : RdF w w.heap.size A n c l) :
    Calls Try.prog 3 #[.slice A n c, .agg #[.string x, .string t]] w fun e w' => e = .returned (.bool true) ∧ Below w.heap.size w w' := by
  have HR := Lib.hid h
  clear h
  have st0 := St.start w x t 24
  go_enter Try.func3, Try.ntmps3
  go_wp2_with fail
  generalize w.alloc (.cells #[.string x, .string t] 24) = w0 at *
  refine (filed_any w0).mono ?_
  rintro e w1 ⟨rfl, hb1⟩
  have st1 := st0.step hb1
  clear st0 hb1
  go_wp2_with fail
  have hr2 := (HR.out.below st1.b).more st1.b.size
  refine (light_any A n c l w1 hr2).mono ?_
  rintro e w3 ⟨b, rfl, hlit, q, rfl⟩
  have st3 := st1.drewN q
  have hr3 : RdF (w1.drewN q) (w1.drewN q).heap.size A n c l := hr2.drewN q
  have HR3 := Lib.hid hr3
  clear hr3 hr2 st1 HR
  generalize w1.drewN q = w3 at *
  have c0 := st3.c0
  have c1 := st3.c1
  cases b with
  | false =>
    clear hlit
    go_wp2
    go_ret
    exact ⟨rfl, st3.b⟩
  | true =>
    obtain ⟨h24, hrise, _⟩ := hlit rfl
    clear hlit
    by_cases h1 : 20 < x.size
    · have t1 : (20 : Int) < (x.size : Int) := by omega
      go_wp2
      go_ret
      exact ⟨rfl, st3.b⟩
    have t1 : decide ((20 : Int) < (x.size : Int)) = false := decide_eq_false (by omega)
    by_cases h2 : 60 < t.size
    · have t2 : (60 : Int) < (t.size : Int) := by omega
      go_wp2
      go_ret
      exact ⟨rfl, st3.b⟩
    have t2 : decide ((60 : Int) < (t.size : Int)) = false := decide_eq_false (by omega)
    have hln : l.length = n := HR3.out.1
    have HL := Lib.hid hln
    rw [hln] at h24
    clear hln
    go_wp2_with fail
    clear t1 t2
    refine (get_any A n c l x w3 HR3.out hrise (by omega)).mono ?_
    rintro e w4 ⟨rfl, hb4⟩
    have st4 := st3.step hb4
    have HR4 := Lib.hid (HR3.out.belowS hb4)
    clear st3 hb4 HR3 c0 c1
    have c0 := st4.c0
    have c1 := st4.c1
    go_wp2_with fail
    refine (refGet_any A n c l x w4 HR4.out (by omega)).mono ?_
    rintro e w5 ⟨rfl, rfl⟩
    generalize textF l x = tx
    generalize has l x = hx
    go_wp2_with fail
    have hx1 : x.size ≤ 1000000 := by omega
    have hn9 : n ≤ 900000 := by omega
    have stD : St w x t w4.drew := st4.drewN 1
    have hrD : RdF w4.drew w4.drew.heap.size A n c l := HR4.out.drewN 1
    have HRD := Lib.hid hrD
    clear hrD HR4
    go_region_held3 (fun w' => w'.cell? ⟨w.heap.size, 0, none⟩ = some (.string x) ∧ w'.cell? ⟨w.heap.size, 1, none⟩ = some (.string t))
      (first | exact ⟨st11.c0, st11.c1⟩ | exact ⟨st10.c0, st10.c1⟩ | exact ⟨st9.c0, st9.c1⟩ | exact ⟨st8.c0, st8.c1⟩ | exact ⟨st7.c0, st7.c1⟩ | exact ⟨st6.c0, st6.c1⟩ | exact ⟨st5.c0, st5.c1⟩ | exact ⟨stD.c0, stD.c1⟩ | exact ⟨c0, c1⟩)
      (first
        | (go_at_call 10; refine (name_any x _ hx1).mono ?_; rintro e w' ⟨rfl, rfl⟩)
        | (go_at_call 11; refine (nameMay_any x _ hx1).mono ?_; rintro e w' ⟨rfl, rfl⟩)
        | (go_at_call 13; refine (check_any x t _ hx1).mono ?_; rintro e w5 ⟨rfl, hb5⟩; have st5 := stD.step hb5; have HR5 := Lib.hid (HRD.out.belowS hb5); clear hb5)
        | (go_at_call 14; refine (fault_any x t _ hx1).mono ?_; rintro e w6 ⟨rfl, hb6⟩; have st6 := st5.step hb6; have HR6 := Lib.hid (HR5.out.belowS hb6); clear hb6)
        | (go_at_call 12; refine (same_errV _ (faultN_nn _ _) _).mono ?_; rintro e w' ⟨rfl, rfl⟩)
        | (go_at_call 16; refine (put_any A n c l x t _ HR6.out hrise hn9).mono ?_; rintro e w7 ⟨v7, rfl, hown7, hb7⟩; obtain ⟨A7, k7, rfl, hr7⟩ := RdF.of_own hown7; have st7 := st6.step hb7; have HR7 := Lib.hid (HR6.out.belowS hb7); have HP7 := Lib.hid hr7; clear hb7 hown7 hr7)
        | (go_at_call 17; refine (refPut_any A n c l x t _ HR7.out hrise hn9).mono ?_; rintro e w8 ⟨v8, rfl, hown8, hb8⟩; obtain ⟨A8, k8, rfl, hr8⟩ := RdF.of_own hown8; have st8 := st7.step hb8; have HR8 := Lib.hid (HR7.out.belowS hb8); have HP8 := Lib.hid (HP7.out.belowS hb8); have HQ8 := Lib.hid hr8; clear hb8 hown8 hr8)
        | (go_at_call 15; refine (same_any A10 A11 _ k10 k11 (dropF l x) _ HP11.out HQ11.out).mono ?_; rintro e w12 ⟨rfl, q12, rfl⟩; have st12 := st11.drewN q12)
        | (go_at_call 15; refine (same_any A7 A8 _ k7 k8 (putF l (x, t)) _ HP8.out HQ8.out).mono ?_; rintro e w9 ⟨rfl, q9, rfl⟩; have st9 := st8.drewN q9; have HR9 := Lib.hid (HR8.out.drewN q9))
        | (go_at_call 18; refine (drop_any A n c l x _ HR9.out hrise hn9).mono ?_; rintro e w10 ⟨v10, rfl, hown10, hb10⟩; obtain ⟨A10, k10, rfl, hr10⟩ := RdF.of_own hown10; have st10 := st9.step hb10; have HR10 := Lib.hid (HR9.out.belowS hb10); have HP10 := Lib.hid hr10; clear hb10 hown10 hr10)
        | (go_at_call 19; refine (refDrop_any A n c l x _ HR10.out hrise hn9).mono ?_; rintro e w11 ⟨v11, rfl, hown11, hb11⟩; obtain ⟨A11, k11, rfl, hr11⟩ := RdF.of_own hown11; have st11 := st10.step hb11; have HP11 := Lib.hid (HP10.out.belowS hb11); have HQ11 := Lib.hid hr11; clear hb11 hown11 hr11))
    go_wp2
    go_ret
    exact ⟨rfl, st12.b⟩
end Go.Proofs.Ytmadegpbinnnfaa
