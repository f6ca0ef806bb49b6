/-
  WALKS: hammerpondref.Run: what each command comes to, the commands without a loop.
-/
import Derived.Test.YtmadegpbinnnfaaDoorRunA
import Derived.Test.YtmadegpbinnnfaaDoorJoinT
import Derived.Test.YtmadegpbinnnfaaDoorJoin
namespace Go.Proofs.YtmadegpbinnnfaaDoor
open Go.RowKit

/-- What a call on the document's overlay leaves. -/
def RefRunPost (g : Nat) (base : List F) (needs targets : List ByteArray) (r : Int × List F) (w : World) (e : Ending) (w' : World) : Prop :=
  e = .returned (.int .i64 r.1) ∧ OvB w' g base needs targets r.2 ∧ w.grownBy w' (some g)
theorem words_fail : words ⟨#[102, 97, 105, 108]⟩ = [⟨#[102, 97, 105, 108]⟩] := of_data (by rw [words_data]; decide)
theorem words_single {cmd x : ByteArray} (h : words cmd = [x]) : cmd = x := by
  have hd := words_data cmd
  have hj := join_spl cmd.data.toList
  rw [← hd, h] at hj
  exact ba_ext (by rw [← hj]; simp [Lib.join, List.intercalate])
theorem cmd_fail {cmd : ByteArray} {ws : List ByteArray} (hws : words cmd = ws) (h : ¬ (ws[0]? = some (⟨#[102, 97, 105, 108]⟩ : ByteArray) ∧ ws.length = 1)) : (cmd.toList == [102, 97, 105, 108]) = false := by
  rw [beq_eq_false_iff_ne]
  intro e
  have ec : cmd = ⟨#[102, 97, 105, 108]⟩ := toList_inj (e.trans (by rw [ByteArray.toList_eq]))
  rw [ec, words_fail] at hws
  subst hws
  exact h ⟨rfl, rfl⟩
theorem cmd_fail_yes {cmd : ByteArray} {ws : List ByteArray} (hws : words cmd = ws) (h0 : ws[0]? = some (⟨#[102, 97, 105, 108]⟩ : ByteArray)) (hl : ws.length = 1) : cmd = ⟨#[102, 97, 105, 108]⟩ := by
  match ws, hl with
  | [x], _ =>
    have : x = ⟨#[102, 97, 105, 108]⟩ := by simpa using h0
    subst this
    exact words_single hws
theorem refSplit2_any (cmd : ByteArray) (ws : List ByteArray) (n : Nat) (w : World) (hs : cmd.size ≤ 100000) (hws : words cmd = ws) (hn : ws.length = n) (hp : 1 ≤ n) :
    Calls Tryd.prog 37 #[.string cmd, .int .u8 32] w fun e w' => ∃ gw c, e = .returned (.slice (some ⟨gw, 0, none⟩) n c) ∧ n ≤ c ∧ w.heap.size ≤ gw ∧ (∀ j x, ws[j]? = some x → w'.cell? ⟨gw, j, none⟩ = some (.string x)) ∧ Below w.heap.size w w' := by
  refine (refSplit_any cmd w hs).mono ?_
  rintro e w1 ⟨v, rfl, hown, hb⟩
  rw [hws, hn] at hown
  rcases hown.2 with ⟨rfl, h0⟩ | ⟨g, cap, cur, rfl, hb', hh, hn', hm, hs', ht⟩
  · have := hown.1; rw [tcells_len] at this; omega
  · refine ⟨g, cap, rfl, hn', hb', fun j x hx => ?_, hb⟩
    have := hown.cells (g := g) rfl j (.string x) (by rw [tcells, List.getElem?_map, hx]; rfl)
    rwa [Go.WideShapes.add_plain, Nat.zero_add] at this

set_option maxHeartbeats 2000000 in
set_option maxRecDepth 100000 in
theorem refRun_put_no (g : Nat) (base : List F) (needs targets : List ByteArray) (own : List F) (cmd : ByteArray) (ws : List ByteArray) (n : Nat) (r : Int × List F) (w : World) (h : OvB w g base needs targets own) (hsm : Small base needs targets own) (hc : cmd.size ≤ 1000)
    (hws : words cmd = ws) (hn : ws.length = n) (hn9 : n ≤ 1001) (hwd0 : ws[0]? = some (⟨#[112, 117, 116]⟩ : ByteArray)) (hcond : n < 3) (hr : r = (4, own)) :
    Calls Tryd.prog 18 #[.pointer (some ⟨g, 0, none⟩), .string cmd] w (RefRunPost g base needs targets r w) := by
  have hpos : 1 ≤ n := by have := (List.getElem?_eq_some_iff.1 hwd0).1; omega
  have i0 : (0 : Int) < (n : Int) := by omega
  have t3 : decide ((2 : Int) < (n : Int)) = false := decide_eq_false (by omega)
  have hcf : (cmd.toList == [102, 97, 105, 108]) = false := cmd_fail hws (by rintro ⟨h1, h2⟩; rw [hwd0] at h1; first | (injection h1 with h1; exact absurd h1 (by first | assumption | decide)) | omega)
  have HOV := Lib.hid h
  have HW := Lib.hid hws
  have HN := Lib.hid hn
  have HRR := Lib.hid hr
  clear h hr
  go_enter Tryd.func18, Tryd.ntmps18
  go_wp2_with fail
  refine (refSplit2_any cmd ws n w (by omega) HW.out HN.out hpos).mono ?_
  clear hws hn
  rintro e w1 ⟨gw, c, rfl, hcap, hgw, hcells, hb1⟩
  have HO2 := Lib.hid (HOV.out.below hb1)
  have c0 : w1.cell? ⟨gw, 0, none⟩ = some (.string (⟨#[112, 117, 116]⟩ : ByteArray)) := hcells 0 _ hwd0
  have HCE := Lib.hid hcells
  clear hcells
  go_wp2
  go_ret
  exact ⟨by rw [HRR.out]; rfl, by rw [HRR.out]; exact HO2.out, grown_below hb1 _⟩

set_option maxHeartbeats 2000000 in
set_option maxRecDepth 100000 in
theorem refRun_copy_no (g : Nat) (base : List F) (needs targets : List ByteArray) (own : List F) (cmd : ByteArray) (ws : List ByteArray) (n : Nat) (r : Int × List F) (w : World) (h : OvB w g base needs targets own) (hsm : Small base needs targets own) (hc : cmd.size ≤ 1000)
    (hws : words cmd = ws) (hn : ws.length = n) (hn9 : n ≤ 1001) (hwd0 : ws[0]? = some (⟨#[99, 111, 112, 121]⟩ : ByteArray)) (hcond : n ≠ 3) (hr : r = (4, own)) :
    Calls Tryd.prog 18 #[.pointer (some ⟨g, 0, none⟩), .string cmd] w (RefRunPost g base needs targets r w) := by
  have hpos : 1 ≤ n := by have := (List.getElem?_eq_some_iff.1 hwd0).1; omega
  have i0 : (0 : Int) < (n : Int) := by omega
  have q3 : ((n : Int) == 3) = false := by rw [beq_eq_false_iff_ne]; omega
  have hcf : (cmd.toList == [102, 97, 105, 108]) = false := cmd_fail hws (by rintro ⟨h1, h2⟩; rw [hwd0] at h1; first | (injection h1 with h1; exact absurd h1 (by first | assumption | decide)) | omega)
  have HOV := Lib.hid h
  have HW := Lib.hid hws
  have HN := Lib.hid hn
  have HRR := Lib.hid hr
  clear h hr
  go_enter Tryd.func18, Tryd.ntmps18
  go_wp2_with fail
  refine (refSplit2_any cmd ws n w (by omega) HW.out HN.out hpos).mono ?_
  clear hws hn
  rintro e w1 ⟨gw, c, rfl, hcap, hgw, hcells, hb1⟩
  have HO2 := Lib.hid (HOV.out.below hb1)
  have c0 : w1.cell? ⟨gw, 0, none⟩ = some (.string (⟨#[99, 111, 112, 121]⟩ : ByteArray)) := hcells 0 _ hwd0
  have HCE := Lib.hid hcells
  clear hcells
  go_wp2
  go_ret
  exact ⟨by rw [HRR.out]; rfl, by rw [HRR.out]; exact HO2.out, grown_below hb1 _⟩

set_option maxHeartbeats 2000000 in
set_option maxRecDepth 100000 in
theorem refRun_turn_no (g : Nat) (base : List F) (needs targets : List ByteArray) (own : List F) (cmd : ByteArray) (ws : List ByteArray) (n : Nat) (r : Int × List F) (w : World) (h : OvB w g base needs targets own) (hsm : Small base needs targets own) (hc : cmd.size ≤ 1000)
    (hws : words cmd = ws) (hn : ws.length = n) (hn9 : n ≤ 1001) (hwd0 : ws[0]? = some (⟨#[116, 117, 114, 110]⟩ : ByteArray)) (hcond : n ≠ 3) (hr : r = (4, own)) :
    Calls Tryd.prog 18 #[.pointer (some ⟨g, 0, none⟩), .string cmd] w (RefRunPost g base needs targets r w) := by
  have hpos : 1 ≤ n := by have := (List.getElem?_eq_some_iff.1 hwd0).1; omega
  have i0 : (0 : Int) < (n : Int) := by omega
  have q3 : ((n : Int) == 3) = false := by rw [beq_eq_false_iff_ne]; omega
  have hcf : (cmd.toList == [102, 97, 105, 108]) = false := cmd_fail hws (by rintro ⟨h1, h2⟩; rw [hwd0] at h1; first | (injection h1 with h1; exact absurd h1 (by first | assumption | decide)) | omega)
  have HOV := Lib.hid h
  have HW := Lib.hid hws
  have HN := Lib.hid hn
  have HRR := Lib.hid hr
  clear h hr
  go_enter Tryd.func18, Tryd.ntmps18
  go_wp2_with fail
  refine (refSplit2_any cmd ws n w (by omega) HW.out HN.out hpos).mono ?_
  clear hws hn
  rintro e w1 ⟨gw, c, rfl, hcap, hgw, hcells, hb1⟩
  have HO2 := Lib.hid (HOV.out.below hb1)
  have c0 : w1.cell? ⟨gw, 0, none⟩ = some (.string (⟨#[116, 117, 114, 110]⟩ : ByteArray)) := hcells 0 _ hwd0
  have HCE := Lib.hid hcells
  clear hcells
  go_wp2
  go_ret
  exact ⟨by rw [HRR.out]; rfl, by rw [HRR.out]; exact HO2.out, grown_below hb1 _⟩

set_option maxHeartbeats 2000000 in
set_option maxRecDepth 100000 in
theorem refRun_swap_no (g : Nat) (base : List F) (needs targets : List ByteArray) (own : List F) (cmd : ByteArray) (ws : List ByteArray) (n : Nat) (r : Int × List F) (w : World) (h : OvB w g base needs targets own) (hsm : Small base needs targets own) (hc : cmd.size ≤ 1000)
    (hws : words cmd = ws) (hn : ws.length = n) (hn9 : n ≤ 1001) (hwd0 : ws[0]? = some (⟨#[115, 119, 97, 112]⟩ : ByteArray)) (hcond : n ≠ 5) (hr : r = (4, own)) :
    Calls Tryd.prog 18 #[.pointer (some ⟨g, 0, none⟩), .string cmd] w (RefRunPost g base needs targets r w) := by
  have hpos : 1 ≤ n := by have := (List.getElem?_eq_some_iff.1 hwd0).1; omega
  have i0 : (0 : Int) < (n : Int) := by omega
  have q5 : ((n : Int) == 5) = false := by rw [beq_eq_false_iff_ne]; omega
  have hcf : (cmd.toList == [102, 97, 105, 108]) = false := cmd_fail hws (by rintro ⟨h1, h2⟩; rw [hwd0] at h1; first | (injection h1 with h1; exact absurd h1 (by first | assumption | decide)) | omega)
  have HOV := Lib.hid h
  have HW := Lib.hid hws
  have HN := Lib.hid hn
  have HRR := Lib.hid hr
  clear h hr
  go_enter Tryd.func18, Tryd.ntmps18
  go_wp2_with fail
  refine (refSplit2_any cmd ws n w (by omega) HW.out HN.out hpos).mono ?_
  clear hws hn
  rintro e w1 ⟨gw, c, rfl, hcap, hgw, hcells, hb1⟩
  have HO2 := Lib.hid (HOV.out.below hb1)
  have c0 : w1.cell? ⟨gw, 0, none⟩ = some (.string (⟨#[115, 119, 97, 112]⟩ : ByteArray)) := hcells 0 _ hwd0
  have HCE := Lib.hid hcells
  clear hcells
  go_wp2
  go_ret
  exact ⟨by rw [HRR.out]; rfl, by rw [HRR.out]; exact HO2.out, grown_below hb1 _⟩

set_option maxHeartbeats 2000000 in
set_option maxRecDepth 100000 in
theorem refRun_join_no (g : Nat) (base : List F) (needs targets : List ByteArray) (own : List F) (cmd : ByteArray) (ws : List ByteArray) (n : Nat) (r : Int × List F) (w : World) (h : OvB w g base needs targets own) (hsm : Small base needs targets own) (hc : cmd.size ≤ 1000)
    (hws : words cmd = ws) (hn : ws.length = n) (hn9 : n ≤ 1001) (hwd0 : ws[0]? = some (⟨#[106, 111, 105, 110]⟩ : ByteArray)) (hcond : n < 3) (hr : r = (4, own)) :
    Calls Tryd.prog 18 #[.pointer (some ⟨g, 0, none⟩), .string cmd] w (RefRunPost g base needs targets r w) := by
  have hpos : 1 ≤ n := by have := (List.getElem?_eq_some_iff.1 hwd0).1; omega
  have i0 : (0 : Int) < (n : Int) := by omega
  have t3 : decide ((2 : Int) < (n : Int)) = false := decide_eq_false (by omega)
  have hcf : (cmd.toList == [102, 97, 105, 108]) = false := cmd_fail hws (by rintro ⟨h1, h2⟩; rw [hwd0] at h1; first | (injection h1 with h1; exact absurd h1 (by first | assumption | decide)) | omega)
  have HOV := Lib.hid h
  have HW := Lib.hid hws
  have HN := Lib.hid hn
  have HRR := Lib.hid hr
  clear h hr
  go_enter Tryd.func18, Tryd.ntmps18
  go_wp2_with fail
  refine (refSplit2_any cmd ws n w (by omega) HW.out HN.out hpos).mono ?_
  clear hws hn
  rintro e w1 ⟨gw, c, rfl, hcap, hgw, hcells, hb1⟩
  have HO2 := Lib.hid (HOV.out.below hb1)
  have c0 : w1.cell? ⟨gw, 0, none⟩ = some (.string (⟨#[106, 111, 105, 110]⟩ : ByteArray)) := hcells 0 _ hwd0
  have HCE := Lib.hid hcells
  clear hcells
  go_wp2
  go_ret
  exact ⟨by rw [HRR.out]; rfl, by rw [HRR.out]; exact HO2.out, grown_below hb1 _⟩

set_option maxHeartbeats 2000000 in
set_option maxRecDepth 100000 in
theorem refRun_need_no (g : Nat) (base : List F) (needs targets : List ByteArray) (own : List F) (cmd : ByteArray) (ws : List ByteArray) (n : Nat) (r : Int × List F) (w : World) (h : OvB w g base needs targets own) (hsm : Small base needs targets own) (hc : cmd.size ≤ 1000)
    (hws : words cmd = ws) (hn : ws.length = n) (hn9 : n ≤ 1001) (hwd0 : ws[0]? = some (⟨#[110, 101, 101, 100]⟩ : ByteArray)) (hcond : n ≠ 2) (hr : r = (4, own)) :
    Calls Tryd.prog 18 #[.pointer (some ⟨g, 0, none⟩), .string cmd] w (RefRunPost g base needs targets r w) := by
  have hpos : 1 ≤ n := by have := (List.getElem?_eq_some_iff.1 hwd0).1; omega
  have i0 : (0 : Int) < (n : Int) := by omega
  have q2 : ((n : Int) == 2) = false := by rw [beq_eq_false_iff_ne]; omega
  have hcf : (cmd.toList == [102, 97, 105, 108]) = false := cmd_fail hws (by rintro ⟨h1, h2⟩; rw [hwd0] at h1; first | (injection h1 with h1; exact absurd h1 (by first | assumption | decide)) | omega)
  have HOV := Lib.hid h
  have HW := Lib.hid hws
  have HN := Lib.hid hn
  have HRR := Lib.hid hr
  clear h hr
  go_enter Tryd.func18, Tryd.ntmps18
  go_wp2_with fail
  refine (refSplit2_any cmd ws n w (by omega) HW.out HN.out hpos).mono ?_
  clear hws hn
  rintro e w1 ⟨gw, c, rfl, hcap, hgw, hcells, hb1⟩
  have HO2 := Lib.hid (HOV.out.below hb1)
  have c0 : w1.cell? ⟨gw, 0, none⟩ = some (.string (⟨#[110, 101, 101, 100]⟩ : ByteArray)) := hcells 0 _ hwd0
  have HCE := Lib.hid hcells
  clear hcells
  go_wp2
  go_ret
  exact ⟨by rw [HRR.out]; rfl, by rw [HRR.out]; exact HO2.out, grown_below hb1 _⟩

set_option maxHeartbeats 2000000 in
set_option maxRecDepth 100000 in
theorem refRun_fail_no (g : Nat) (base : List F) (needs targets : List ByteArray) (own : List F) (cmd : ByteArray) (ws : List ByteArray) (n : Nat) (r : Int × List F) (w : World) (h : OvB w g base needs targets own) (hsm : Small base needs targets own) (hc : cmd.size ≤ 1000)
    (hws : words cmd = ws) (hn : ws.length = n) (hn9 : n ≤ 1001) (hwd0 : ws[0]? = some (⟨#[102, 97, 105, 108]⟩ : ByteArray)) (hcond : n ≠ 1) (hr : r = (4, own)) :
    Calls Tryd.prog 18 #[.pointer (some ⟨g, 0, none⟩), .string cmd] w (RefRunPost g base needs targets r w) := by
  have hpos : 1 ≤ n := by have := (List.getElem?_eq_some_iff.1 hwd0).1; omega
  have i0 : (0 : Int) < (n : Int) := by omega
  have hcf : (cmd.toList == [102, 97, 105, 108]) = false := cmd_fail hws (by rintro ⟨h1, h2⟩; rw [hwd0] at h1; first | (injection h1 with h1; exact absurd h1 (by first | assumption | decide)) | omega)
  have HOV := Lib.hid h
  have HW := Lib.hid hws
  have HN := Lib.hid hn
  have HRR := Lib.hid hr
  clear h hr
  go_enter Tryd.func18, Tryd.ntmps18
  go_wp2_with fail
  refine (refSplit2_any cmd ws n w (by omega) HW.out HN.out hpos).mono ?_
  clear hws hn
  rintro e w1 ⟨gw, c, rfl, hcap, hgw, hcells, hb1⟩
  have HO2 := Lib.hid (HOV.out.below hb1)
  have c0 : w1.cell? ⟨gw, 0, none⟩ = some (.string (⟨#[102, 97, 105, 108]⟩ : ByteArray)) := hcells 0 _ hwd0
  have HCE := Lib.hid hcells
  clear hcells
  go_wp2
  go_ret
  exact ⟨by rw [HRR.out]; rfl, by rw [HRR.out]; exact HO2.out, grown_below hb1 _⟩

set_option maxHeartbeats 2000000 in
set_option maxRecDepth 100000 in
theorem refRun_swap_n3 (g : Nat) (base : List F) (needs targets : List ByteArray) (own : List F) (cmd : ByteArray) (ws : List ByteArray) (n : Nat) (r : Int × List F) (W3 : ByteArray) (w : World) (h : OvB w g base needs targets own) (hsm : Small base needs targets own) (hc : cmd.size ≤ 1000)
    (hws : words cmd = ws) (hn : ws.length = n) (hn9 : n ≤ 1001) (hwd0 : ws[0]? = some (⟨#[115, 119, 97, 112]⟩ : ByteArray)) (hwd3 : ws[3]? = some W3) (hcond : n = 5) (hs3 : W3.size ≠ 1) (hr : r = (4, own)) :
    Calls Tryd.prog 18 #[.pointer (some ⟨g, 0, none⟩), .string cmd] w (RefRunPost g base needs targets r w) := by
  have hpos : 1 ≤ n := by have := (List.getElem?_eq_some_iff.1 hwd0).1; omega
  have i0 : (0 : Int) < (n : Int) := by omega
  have q5 : ((n : Int) == 5) = true := by rw [beq_iff_eq]; omega
  have i3 : (3 : Int) < (n : Int) := by omega
  have i4 : (4 : Int) < (n : Int) := by omega
  have z3 : ((W3.size : Int) == 1) = false := by rw [beq_eq_false_iff_ne]; omega
  have hcf : (cmd.toList == [102, 97, 105, 108]) = false := cmd_fail hws (by rintro ⟨h1, h2⟩; rw [hwd0] at h1; first | (injection h1 with h1; exact absurd h1 (by first | assumption | decide)) | omega)
  have HOV := Lib.hid h
  have HW := Lib.hid hws
  have HN := Lib.hid hn
  have HRR := Lib.hid hr
  clear h hr
  go_enter Tryd.func18, Tryd.ntmps18
  go_wp2_with fail
  refine (refSplit2_any cmd ws n w (by omega) HW.out HN.out hpos).mono ?_
  clear hws hn
  rintro e w1 ⟨gw, c, rfl, hcap, hgw, hcells, hb1⟩
  have HO2 := Lib.hid (HOV.out.below hb1)
  have c0 : w1.cell? ⟨gw, 0, none⟩ = some (.string (⟨#[115, 119, 97, 112]⟩ : ByteArray)) := hcells 0 _ hwd0
  have c3 : w1.cell? ⟨gw, 3, none⟩ = some (.string W3) := hcells 3 _ hwd3
  have HCE := Lib.hid hcells
  clear hcells
  go_wp2
  go_ret
  exact ⟨by rw [HRR.out]; rfl, by rw [HRR.out]; exact HO2.out, grown_below hb1 _⟩

set_option maxHeartbeats 2000000 in
set_option maxRecDepth 100000 in
theorem refRun_swap_n4 (g : Nat) (base : List F) (needs targets : List ByteArray) (own : List F) (cmd : ByteArray) (ws : List ByteArray) (n : Nat) (r : Int × List F) (W3 W4 : ByteArray) (w : World) (h : OvB w g base needs targets own) (hsm : Small base needs targets own) (hc : cmd.size ≤ 1000)
    (hws : words cmd = ws) (hn : ws.length = n) (hn9 : n ≤ 1001) (hwd0 : ws[0]? = some (⟨#[115, 119, 97, 112]⟩ : ByteArray)) (hwd3 : ws[3]? = some W3) (hwd4 : ws[4]? = some W4) (hcond : n = 5) (hs3 : W3.size = 1) (hs4 : W4.size ≠ 1) (hr : r = (4, own)) :
    Calls Tryd.prog 18 #[.pointer (some ⟨g, 0, none⟩), .string cmd] w (RefRunPost g base needs targets r w) := by
  have hpos : 1 ≤ n := by have := (List.getElem?_eq_some_iff.1 hwd0).1; omega
  have i0 : (0 : Int) < (n : Int) := by omega
  have q5 : ((n : Int) == 5) = true := by rw [beq_iff_eq]; omega
  have i3 : (3 : Int) < (n : Int) := by omega
  have i4 : (4 : Int) < (n : Int) := by omega
  have z3 : ((W3.size : Int) == 1) = true := by rw [beq_iff_eq]; omega
  have z4 : ((W4.size : Int) == 1) = false := by rw [beq_eq_false_iff_ne]; omega
  have hcf : (cmd.toList == [102, 97, 105, 108]) = false := cmd_fail hws (by rintro ⟨h1, h2⟩; rw [hwd0] at h1; first | (injection h1 with h1; exact absurd h1 (by first | assumption | decide)) | omega)
  have HOV := Lib.hid h
  have HW := Lib.hid hws
  have HN := Lib.hid hn
  have HRR := Lib.hid hr
  clear h hr
  go_enter Tryd.func18, Tryd.ntmps18
  go_wp2_with fail
  refine (refSplit2_any cmd ws n w (by omega) HW.out HN.out hpos).mono ?_
  clear hws hn
  rintro e w1 ⟨gw, c, rfl, hcap, hgw, hcells, hb1⟩
  have HO2 := Lib.hid (HOV.out.below hb1)
  have c0 : w1.cell? ⟨gw, 0, none⟩ = some (.string (⟨#[115, 119, 97, 112]⟩ : ByteArray)) := hcells 0 _ hwd0
  have c3 : w1.cell? ⟨gw, 3, none⟩ = some (.string W3) := hcells 3 _ hwd3
  have c4 : w1.cell? ⟨gw, 4, none⟩ = some (.string W4) := hcells 4 _ hwd4
  have HCE := Lib.hid hcells
  clear hcells
  go_wp2
  go_ret
  exact ⟨by rw [HRR.out]; rfl, by rw [HRR.out]; exact HO2.out, grown_below hb1 _⟩

set_option maxHeartbeats 2000000 in
set_option maxRecDepth 100000 in
theorem refRun_none (g : Nat) (base : List F) (needs targets : List ByteArray) (own : List F) (cmd : ByteArray) (ws : List ByteArray) (n : Nat) (r : Int × List F) (W0 : ByteArray) (w : World) (h : OvB w g base needs targets own) (hsm : Small base needs targets own) (hc : cmd.size ≤ 1000)
    (hws : words cmd = ws) (hn : ws.length = n) (hn9 : n ≤ 1001) (hwd0 : ws[0]? = some W0) (hx0 : W0 ≠ (⟨#[112, 117, 116]⟩ : ByteArray)) (hx1 : W0 ≠ (⟨#[99, 111, 112, 121]⟩ : ByteArray)) (hx2 : W0 ≠ (⟨#[116, 117, 114, 110]⟩ : ByteArray)) (hx3 : W0 ≠ (⟨#[115, 119, 97, 112]⟩ : ByteArray)) (hx4 : W0 ≠ (⟨#[106, 111, 105, 110]⟩ : ByteArray)) (hx5 : W0 ≠ (⟨#[110, 101, 101, 100]⟩ : ByteArray)) (hx6 : W0 ≠ (⟨#[102, 97, 105, 108]⟩ : ByteArray)) (hr : r = (4, own)) :
    Calls Tryd.prog 18 #[.pointer (some ⟨g, 0, none⟩), .string cmd] w (RefRunPost g base needs targets r w) := by
  have hpos : 1 ≤ n := by have := (List.getElem?_eq_some_iff.1 hwd0).1; omega
  have i0 : (0 : Int) < (n : Int) := by omega
  have y0 : (W0.toList == [112, 117, 116]) = false := by
    rw [beq_eq_false_iff_ne]
    intro e
    exact hx0 (toList_inj (e.trans (by rw [ByteArray.toList_eq])))
  have y1 : (W0.toList == [99, 111, 112, 121]) = false := by
    rw [beq_eq_false_iff_ne]
    intro e
    exact hx1 (toList_inj (e.trans (by rw [ByteArray.toList_eq])))
  have y2 : (W0.toList == [116, 117, 114, 110]) = false := by
    rw [beq_eq_false_iff_ne]
    intro e
    exact hx2 (toList_inj (e.trans (by rw [ByteArray.toList_eq])))
  have y3 : (W0.toList == [115, 119, 97, 112]) = false := by
    rw [beq_eq_false_iff_ne]
    intro e
    exact hx3 (toList_inj (e.trans (by rw [ByteArray.toList_eq])))
  have y4 : (W0.toList == [106, 111, 105, 110]) = false := by
    rw [beq_eq_false_iff_ne]
    intro e
    exact hx4 (toList_inj (e.trans (by rw [ByteArray.toList_eq])))
  have y5 : (W0.toList == [110, 101, 101, 100]) = false := by
    rw [beq_eq_false_iff_ne]
    intro e
    exact hx5 (toList_inj (e.trans (by rw [ByteArray.toList_eq])))
  have y6 : (W0.toList == [102, 97, 105, 108]) = false := by
    rw [beq_eq_false_iff_ne]
    intro e
    exact hx6 (toList_inj (e.trans (by rw [ByteArray.toList_eq])))
  have hcf : (cmd.toList == [102, 97, 105, 108]) = false := cmd_fail hws (by rintro ⟨h1, h2⟩; rw [hwd0] at h1; first | (injection h1 with h1; exact absurd h1 (by first | assumption | decide)) | omega)
  have HOV := Lib.hid h
  have HW := Lib.hid hws
  have HN := Lib.hid hn
  have HRR := Lib.hid hr
  clear h hr
  go_enter Tryd.func18, Tryd.ntmps18
  go_wp2_with fail
  refine (refSplit2_any cmd ws n w (by omega) HW.out HN.out hpos).mono ?_
  clear hws hn
  rintro e w1 ⟨gw, c, rfl, hcap, hgw, hcells, hb1⟩
  have HO2 := Lib.hid (HOV.out.below hb1)
  have c0 : w1.cell? ⟨gw, 0, none⟩ = some (.string W0) := hcells 0 _ hwd0
  have HCE := Lib.hid hcells
  clear hcells
  clear hx0 hx1 hx2 hx3 hx4 hx5 hx6
  go_wp2
  go_ret
  exact ⟨by rw [HRR.out]; rfl, by rw [HRR.out]; exact HO2.out, grown_below hb1 _⟩

set_option maxHeartbeats 2000000 in
set_option maxRecDepth 100000 in
theorem refRun_fail (g : Nat) (base : List F) (needs targets : List ByteArray) (own : List F) (cmd : ByteArray) (ws : List ByteArray) (n : Nat) (r : Int × List F) (w : World) (h : OvB w g base needs targets own) (hsm : Small base needs targets own) (hc : cmd.size ≤ 1000)
    (hws : words cmd = ws) (hn : ws.length = n) (hn9 : n ≤ 1001) (hwd0 : ws[0]? = some (⟨#[102, 97, 105, 108]⟩ : ByteArray)) (hcond : n = 1) (hr : r = (7, own)) :
    Calls Tryd.prog 18 #[.pointer (some ⟨g, 0, none⟩), .string cmd] w (RefRunPost g base needs targets r w) := by
  have hpos : 1 ≤ n := by have := (List.getElem?_eq_some_iff.1 hwd0).1; omega
  have i0 : (0 : Int) < (n : Int) := by omega
  have hcf : (cmd.toList == [102, 97, 105, 108]) = true := by rw [cmd_fail_yes hws hwd0 (hn.trans hcond), beq_iff_eq, ByteArray.toList_eq]
  have HOV := Lib.hid h
  have HW := Lib.hid hws
  have HN := Lib.hid hn
  have HRR := Lib.hid hr
  clear h hr
  go_enter Tryd.func18, Tryd.ntmps18
  go_wp2_with fail
  refine (refSplit2_any cmd ws n w (by omega) HW.out HN.out hpos).mono ?_
  clear hws hn
  rintro e w1 ⟨gw, c, rfl, hcap, hgw, hcells, hb1⟩
  have HO2 := Lib.hid (HOV.out.below hb1)
  have c0 : w1.cell? ⟨gw, 0, none⟩ = some (.string (⟨#[102, 97, 105, 108]⟩ : ByteArray)) := hcells 0 _ hwd0
  have HCE := Lib.hid hcells
  clear hcells
  go_wp2
  go_ret
  exact ⟨by rw [HRR.out]; rfl, by rw [HRR.out]; exact HO2.out, grown_below hb1 _⟩

theorem size_nil {t : ByteArray} (h : (t.toList == []) = true) : t.size = 0 := by
  have : t.toList = [] := by simpa using h
  rw [ByteArray.toList_eq] at this
  simpa using congrArg List.length this
theorem size_ne {t : ByteArray} (h : (t.toList == []) = false) : ¬ t.size = 0 := by
  intro e
  have : t.toList = [] := by rw [ByteArray.toList_eq]; exact List.eq_nil_of_length_eq_zero (by simpa using e)
  rw [this] at h
  exact absurd h (by decide)

set_option maxHeartbeats 2000000 in
set_option maxRecDepth 100000 in
theorem refRun_need (g : Nat) (base : List F) (needs targets : List ByteArray) (own : List F) (cmd : ByteArray) (ws : List ByteArray) (n : Nat) (r : Int × List F) (W1 : ByteArray) (w : World) (h : OvB w g base needs targets own) (hsm : Small base needs targets own) (hc : cmd.size ≤ 1000)
    (hws : words cmd = ws) (hn : ws.length = n) (hn9 : n ≤ 1001) (hwd0 : ws[0]? = some (⟨#[110, 101, 101, 100]⟩ : ByteArray)) (hwd1 : ws[1]? = some W1) (hcond : n = 2) (hr : r = (needR base needs own W1, own)) :
    Calls Tryd.prog 18 #[.pointer (some ⟨g, 0, none⟩), .string cmd] w (RefRunPost g base needs targets r w) := by
  have hpos : 1 ≤ n := by have := (List.getElem?_eq_some_iff.1 hwd0).1; omega
  have i0 : (0 : Int) < (n : Int) := by omega
  have i1 : (1 : Int) < (n : Int) := by omega
  have q2 : ((n : Int) == 2) = true := by rw [beq_iff_eq]; omega
  have hcf : (cmd.toList == [102, 97, 105, 108]) = false := cmd_fail hws (by rintro ⟨h1, h2⟩; rw [hwd0] at h1; first | (injection h1 with h1; exact absurd h1 (by first | assumption | decide)) | omega)
  have HOV := Lib.hid h
  have HW := Lib.hid hws
  have HN := Lib.hid hn
  have HRR := Lib.hid hr
  clear h hr
  go_enter Tryd.func18, Tryd.ntmps18
  go_wp2_with fail
  refine (refSplit2_any cmd ws n w (by omega) HW.out HN.out hpos).mono ?_
  clear hws hn
  rintro e w1 ⟨gw, c, rfl, hcap, hgw, hcells, hb1⟩
  have HO2 := Lib.hid (HOV.out.below hb1)
  have c0 : w1.cell? ⟨gw, 0, none⟩ = some (.string (⟨#[110, 101, 101, 100]⟩ : ByteArray)) := hcells 0 _ hwd0
  have c1 : w1.cell? ⟨gw, 1, none⟩ = some (.string W1) := hcells 1 _ hwd1
  have HCE := Lib.hid hcells
  clear hcells
  have hr' := HRR.out
  rw [needR] at hr'
  generalize hre : rErr base needs own W1 = re at hr'
  generalize hrt : rText base needs own W1 = rt at hr'
  have HRE := Lib.hid hre
  have HRT := Lib.hid hrt
  by_cases h0 : re = 0
  · subst h0
    rw [if_pos rfl] at hr'
    cases hz : (rt.toList == []) with
    | true =>
      have hz0 : rt.size = 0 := size_nil hz
      rw [if_pos hz0] at hr'
      have HR' := Lib.hid hr'
      clear hr' hre hrt
      go_wp2_with fail
      refine (refRead_any g base needs targets own W1 _ HO2.out (by have := hsm.lo; omega) (by have := hsm.lb; omega) (by have := hsm.ln; omega)).mono ?_
      rintro e w3 ⟨rfl, rfl⟩
      rw [HRE.out, HRT.out]
      go_wp2
      go_ret
      exact ⟨by rw [HR'.out]; rfl, by rw [HR'.out]; exact HO2.out, grown_below hb1 _⟩
    | false =>
      have hz0 : ¬ rt.size = 0 := size_ne hz
      rw [if_neg hz0] at hr'
      have HR' := Lib.hid hr'
      clear hr' hre hrt
      go_wp2_with fail
      refine (refRead_any g base needs targets own W1 _ HO2.out (by have := hsm.lo; omega) (by have := hsm.lb; omega) (by have := hsm.ln; omega)).mono ?_
      rintro e w3 ⟨rfl, rfl⟩
      rw [HRE.out, HRT.out]
      go_wp2
      go_ret
      exact ⟨by rw [HR'.out]; rfl, by rw [HR'.out]; exact HO2.out, grown_below hb1 _⟩
  · rw [if_neg h0] at hr'
    have t0 : (re == (0 : Int)) = false := by rw [beq_eq_false_iff_ne]; exact h0
    have HR' := Lib.hid hr'
    clear hr' hre hrt
    go_wp2_with fail
    refine (refRead_any g base needs targets own W1 _ HO2.out (by have := hsm.lo; omega) (by have := hsm.lb; omega) (by have := hsm.ln; omega)).mono ?_
    rintro e w3 ⟨rfl, rfl⟩
    rw [HRE.out, HRT.out]
    go_wp2
    go_ret
    exact ⟨by rw [HR'.out]; rfl, by rw [HR'.out]; exact HO2.out, grown_below hb1 _⟩

theorem wd_of {ws : List ByteArray} {i : Nat} {x : ByteArray} (h : ws[i]? = some x) : wd ws i = x := by
  unfold wd
  rw [List.getD_eq_getElem?_getD, h]; rfl
theorem rest_le (cmd : ByteArray) (h : 3 ≤ (words cmd).length) : (wd (words cmd) 0).size + (wd (words cmd) 1).size + 2 ≤ cmd.size := by
  have hd := words_data cmd
  have hj := join_spl cmd.data.toList
  rw [← hd] at hj
  obtain ⟨a, b, c, r, e⟩ : ∃ a b c r, words cmd = a :: b :: c :: r := by
    match hw : words cmd, h with
    | a :: b :: c :: r, _ => exact ⟨a, b, c, r, rfl⟩
  rw [e] at hj ⊢
  simp only [List.map_cons] at hj
  rw [join_cons2, join_cons2] at hj
  have hl := congrArg List.length hj
  simp only [List.length_append, List.length_cons, List.length_nil] at hl
  have h1 : a.size = a.data.toList.length := by simp
  have h2 : b.size = b.data.toList.length := by simp
  have h3 : cmd.size = cmd.data.toList.length := by simp
  show a.size + b.size + 2 ≤ cmd.size
  omega

set_option maxHeartbeats 2000000 in
set_option maxRecDepth 100000 in
theorem refRun_put (g : Nat) (base : List F) (needs targets : List ByteArray) (own : List F) (cmd : ByteArray) (ws : List ByteArray) (n : Nat) (r : Int × List F) (W0 W1 : ByteArray) (w : World) (h : OvB w g base needs targets own) (hsm : Small base needs targets own) (hc : cmd.size ≤ 1000)
    (hws : words cmd = ws) (hn : ws.length = n) (hn9 : n ≤ 1001) (hwd0 : ws[0]? = some W0) (hwd1 : ws[1]? = some W1) (hW0 : W0 = (⟨#[112, 117, 116]⟩ : ByteArray)) (hcond : 3 ≤ n) (hr : r = writeR targets own W1 (joinT (ws.drop 2))) :
    Calls Tryd.prog 18 #[.pointer (some ⟨g, 0, none⟩), .string cmd] w (RefRunPost g base needs targets r w) := by
  have hpos : 1 ≤ n := by have := (List.getElem?_eq_some_iff.1 hwd0).1; omega
  have i0 : (0 : Int) < (n : Int) := by omega
  have i0n : 0 < n := by omega
  have i1 : (1 : Int) < (n : Int) := by omega
  have t3 : (2 : Int) < (n : Int) := by omega
  have hrest := joinT_rest cmd (by rw [hws, hn]; exact hcond)
  have hsz2 := rest_le cmd (by rw [hws, hn]; exact hcond)
  have e0 : wd ws 0 = W0 := wd_of hwd0
  have e1 : wd ws 1 = W1 := wd_of hwd1
  rw [hws, e0, e1] at hrest hsz2
  have HRE := Lib.hid hrest
  have y0 : (W0.toList == [112, 117, 116]) = true := by rw [hW0, beq_iff_eq, ByteArray.toList_eq]
  have p1 : IntKind.i64.wrap ((W0.size : Int) + (W1.size : Int)) = (W0.size : Int) + (W1.size : Int) := by rw [IntKind.wrap_i64]; omega
  have p2 : IntKind.i64.wrap ((W0.size : Int) + (W1.size : Int) + 2) = (W0.size : Int) + (W1.size : Int) + 2 := by rw [IntKind.wrap_i64]; omega
  have p3 : (0 : Int) ≤ (W0.size : Int) + (W1.size : Int) + 2 := by omega
  have p4 : (W0.size : Int) + (W1.size : Int) + 2 ≤ (cmd.size : Int) := by omega
  clear hrest e0 e1
  have hcf : (cmd.toList == [102, 97, 105, 108]) = false := cmd_fail hws (by rintro ⟨h1, h2⟩; rw [hwd0] at h1; first | (injection h1 with h1; rw [hW0] at h1; exact absurd h1 (by decide)) | omega)
  have HOV := Lib.hid h
  have HW := Lib.hid hws
  have HN := Lib.hid hn
  have HRR := Lib.hid hr
  clear h hr
  go_enter Tryd.func18, Tryd.ntmps18
  go_wp2_with fail
  refine (refSplit2_any cmd ws n w (by omega) HW.out HN.out hpos).mono ?_
  clear hws hn
  rintro e w1 ⟨gw, c, rfl, hcap, hgw, hcells, hb1⟩
  have HO2 := Lib.hid (HOV.out.below hb1)
  have c0 : w1.cell? ⟨gw, 0, none⟩ = some (.string W0) := hcells 0 _ hwd0
  have c1 : w1.cell? ⟨gw, 1, none⟩ = some (.string W1) := hcells 1 _ hwd1
  have HCE := Lib.hid hcells
  clear hcells
  clear hW0
  have gl : g < w.heap.size := HOV.out.lt
  have N2 := Lib.hid (show some gw ≠ some g by intro e; injection e with e; omega)
  go_wp2
  have hbD : Below w.heap.size w w1.drew := ⟨hb1.os, hb1.tape, hb1.output, hb1.size, hb1.block⟩
  have HOD := Lib.hid (show OvB w1.drew g base needs targets own from HO2.out)
  have HH := Lib.hid (show w1.drew.cell? ⟨gw, 0, none⟩ = some (.string W0) ∧ w1.drew.cell? ⟨gw, 1, none⟩ = some (.string W1) from ⟨c0, c1⟩)
  go_region_held3 (fun w' => w'.cell? ⟨gw, 0, none⟩ = some (.string W0) ∧ w'.cell? ⟨gw, 1, none⟩ = some (.string W1))
    (first | exact ⟨k0, k1⟩ | exact HH.out | exact ⟨c0, c1⟩)
    (first
      | (go_at_call 38; refine (refWrite_any g base needs targets own W1 _ _ HOD.out hsm.ro (by have := hsm.lo; omega) (by have := hsm.lt; omega)).mono ?_; rintro e w3 ⟨rfl, hov, hg⟩; have HV := Lib.hid hov; have HG := Lib.hid hg; have k0 : w3.cell? ⟨gw, 0, none⟩ = some (.string W0) := hg.cell HH.out.1 N2.out; have k1 : w3.cell? ⟨gw, 1, none⟩ = some (.string W1) := hg.cell HH.out.2 N2.out; clear hov hg))
  all_goals go_wp2
  all_goals go_ret
  all_goals exact ⟨by rw [HRR.out, HRE.out]; rfl, by rw [HRR.out, HRE.out]; exact HV.out, grown_trans (grown_below hbD _) HG.out⟩
end Go.Proofs.YtmadegpbinnnfaaDoor
