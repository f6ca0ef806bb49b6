/-
  WALKS: hammerpondref.Run: join, copy, turn and swap (the commands with a loop), then all commands together.
-/
import Derived.Test.YtmadegpbinnnfaaDoorRefRunA
namespace Go.Proofs.YtmadegpbinnnfaaDoor
open Go.RowKit

theorem ext_one (t : ByteArray) (k : Nat) (h : k < t.size) : (t.extract k (k + 1)).data.toList = [t[k]] := by
  rw [ext_data, take_byte _ _ h, List.drop_left' (by simp; omega)]
theorem ext_next (t : ByteArray) (k : Nat) (h : k < t.size) : (t.extract 0 (k + 1)).data.toList = (t.extract 0 k).data.toList ++ [t[k]] := by
  rw [ext_data, ext_data, take_byte _ _ h]; rfl
theorem ext_whole (t : ByteArray) : t.extract 0 t.size = t := ba_ext (by rw [ext_data, List.take_of_length_le (by simp)]; rfl)
theorem ext_none (t : ByteArray) : t.extract 0 0 = ⟨#[]⟩ := ba_ext (by rw [ext_data]; simp)
theorem copy_step (t : ByteArray) (k : Nat) (h : k < t.size) : t.extract 0 k ++ t.extract k (k + 1) = t.extract 0 (k + 1) := ba_ext (by rw [app_data, ext_one t k h, ext_next t k h])
theorem revT_data (t : ByteArray) : (revT t).data.toList = t.data.toList.reverse := rfl
theorem turn_step (t : ByteArray) (k : Nat) (h : k < t.size) : t.extract k (k + 1) ++ revT (t.extract 0 k) = revT (t.extract 0 (k + 1)) := ba_ext (by rw [app_data, ext_one t k h, revT_data, revT_data, ext_next t k h]; simp)
theorem swT_data (t : ByteArray) (x y : UInt8) : (swT t x y).data.toList = t.data.toList.map fun b => if b = x then y else b := rfl
theorem one_data (W : ByteArray) (h : W.size = 1) : W.data.toList = [byteAt W 0] := by
  unfold byteAt
  have hl : W.data.toList.length = 1 := by simpa using h
  match W.data.toList, hl with
  | [x], _ => rfl
theorem swap_yes {t W3 W4 : ByteArray} {k : Nat} (h : k < t.size) (h3 : W3.size = 1) (h4 : W4.size = 1) (hq : ((t.extract k (k + 1)).toList == W3.toList) = true) : swT (t.extract 0 k) (byteAt W3 0) (byteAt W4 0) ++ W4 = swT (t.extract 0 (k + 1)) (byteAt W3 0) (byteAt W4 0) := by
  have e := (beq_iff_eq.1 hq)
  rw [ByteArray.toList_eq, ByteArray.toList_eq, ext_one t k h, one_data W3 h3] at e
  have e' : t[k] = byteAt W3 0 := by simpa using e
  refine ba_ext ?_
  rw [app_data, swT_data, swT_data, ext_next t k h, List.map_append, one_data W4 h4]
  simp [e']
theorem swap_not {t W3 W4 : ByteArray} {k : Nat} (h : k < t.size) (h3 : W3.size = 1) (hq : ((t.extract k (k + 1)).toList == W3.toList) = false) : swT (t.extract 0 k) (byteAt W3 0) (byteAt W4 0) ++ t.extract k (k + 1) = swT (t.extract 0 (k + 1)) (byteAt W3 0) (byteAt W4 0) := by
  have e := (beq_eq_false_iff_ne.1 hq)
  rw [ByteArray.toList_eq, ByteArray.toList_eq, ext_one t k h, one_data W3 h3] at e
  have e' : ¬ t[k] = byteAt W3 0 := by simpa using e
  refine ba_ext ?_
  rw [app_data, swT_data, swT_data, ext_next t k h, List.map_append, ext_one t k h]
  simp [e']
theorem ext_size (t : ByteArray) (a b : Nat) (hb : b ≤ t.size) : (t.extract a b).size = b - a := by
  show (t.extract a b).data.size = _
  rw [← Array.length_toList, ext_data, List.length_drop, List.length_take]
  have : t.data.toList.length = t.size := Array.length_toList
  omega
theorem revT_size (t : ByteArray) : (revT t).size = t.size := by
  have : (revT t).data.toList.length = t.data.toList.length := by rw [revT_data]; simp
  simpa using this
theorem swT_size (t : ByteArray) (x y : UInt8) : (swT t x y).size = t.size := by
  have : (swT t x y).data.toList.length = t.data.toList.length := by rw [swT_data]; simp
  simpa using this
theorem catR_size {base : List F} {needs targets : List ByteArray} {own : List F} (h : Small base needs targets own) (l : List ByteArray) : (catR base needs own l).2.size ≤ 60 * l.length := by
  induction l with
  | nil => simp [catR]
  | cons m l ih =>
    unfold catR
    have := rText_size h m
    split
    · split
      · simp only [app_size, List.length_cons]; omega
      · simp
    · simp
structure CtRel (w : World) (base : List F) (needs : List ByteArray) (own : List F) (ins : List ByteArray) (s i : Value) (wr : World) : Prop where
  ex : ∃ (k : Nat), k ≤ ins.length ∧ i = .int .i64 ((k : Int) + 2) ∧ (catR base needs own (ins.take k)).1 = 0 ∧ s = .string (catR base needs own (ins.take k)).2 ∧ wr = w
structure PsRel (w : World) (t : ByteArray) (f : ByteArray → ByteArray) (s i : Value) (wr : World) : Prop where
  ex : ∃ (k : Nat), k ≤ t.size ∧ i = .int .i64 k ∧ s = .string (f (t.extract 0 k)) ∧ wr = w

set_option maxHeartbeats 2000000 in
set_option maxRecDepth 100000 in
theorem refRun_join (g : Nat) (base : List F) (needs targets : List ByteArray) (own : List F) (cmd : ByteArray) (ws : List ByteArray) (n : Nat) (r : Int × List F) (W1 : ByteArray) (w : World) (h : OvB w g base needs targets own) (hsm : Small base needs targets own) (hc : cmd.size ≤ 1000)
    (hws : words cmd = ws) (hn : ws.length = n) (hn9 : n ≤ 1001) (hwd0 : ws[0]? = some (⟨#[106, 111, 105, 110]⟩ : ByteArray)) (hwd1 : ws[1]? = some W1) (hcond : 3 ≤ n) (hr : r = joinR base needs targets own W1 (ws.drop 2)) :
    Calls Tryd.prog 18 #[.pointer (some ⟨g, 0, none⟩), .string cmd] w (RefRunPost g base needs targets r w) := by
  have hpos : 1 ≤ n := by have := (List.getElem?_eq_some_iff.1 hwd0).1; omega
  have i0 : (0 : Int) < (n : Int) := by omega
  have i1 : (1 : Int) < (n : Int) := by omega
  have t3 : (2 : Int) < (n : Int) := by omega
  have hcf : (cmd.toList == [102, 97, 105, 108]) = false := cmd_fail hws (by rintro ⟨h1, h2⟩; rw [hwd0] at h1; first | (injection h1 with h1; exact absurd h1 (by first | assumption | decide)) | omega)
  have HOV := Lib.hid h
  have HW := Lib.hid hws
  have HN := Lib.hid hn
  have HRR := Lib.hid hr
  clear h hr
  go_enter Tryd.func18, Tryd.ntmps18
  go_wp2_with fail
  refine (refSplit2_any cmd ws n w (by omega) HW.out HN.out hpos).mono ?_
  clear hws hn
  rintro e w1 ⟨gw, c, rfl, hcap, hgw, hcells, hb1⟩
  have HO2 := Lib.hid (HOV.out.below hb1)
  have c0 : w1.cell? ⟨gw, 0, none⟩ = some (.string (⟨#[106, 111, 105, 110]⟩ : ByteArray)) := hcells 0 _ hwd0
  have c1 : w1.cell? ⟨gw, 1, none⟩ = some (.string W1) := hcells 1 _ hwd1
  have HCE := Lib.hid hcells
  clear hcells
  have HIL := Lib.hid (show (ws.drop 2).length = n - 2 by rw [List.length_drop, HN.out])
  have HDR := Lib.hid (show ∀ k x, (ws.drop 2)[k]? = some x → ws[k + 2]? = some x from fun k x hx => by rw [List.getElem?_drop] at hx; rw [Nat.add_comm]; exact hx)
  go_wp2
  go_loopw [9, 10] (fun s i wr => CtRel w1 base needs own (ws.drop 2) s i wr) (fun _ i _ => n - (intOf i).toNat)
  case atStart => exact ⟨0, Nat.zero_le _, rfl, rfl, rfl, rfl⟩
  case round =>
    obtain ⟨k, hk, rfl, hc0, rfl, rfl⟩ := hrel.ex
    clear hrel
    have hkn : k ≤ n - 2 := by rw [← HIL.out]; exact hk
    have hcs := catR_size hsm ((ws.drop 2).take k)
    have htl : ((ws.drop 2).take k).length ≤ 1001 := by rw [List.length_take]; omega
    generalize hcat : (catR base needs own ((ws.drop 2).take k)).2 = a at *
    have hA : a.size ≤ 60060 := by omega
    have HCAT := Lib.hid hcat
    have HC := Lib.hid hc0
    clear hk hcs htl hcat hc0
    by_cases hlt : k < n - 2
    · obtain ⟨x, hx⟩ : ∃ x, (ws.drop 2)[k]? = some x := ⟨_, List.getElem?_eq_getElem (by rw [HIL.out]; exact hlt)⟩
      have cx : wr.cell? ⟨gw, k + 2, none⟩ = some (.string x) := HCE.out _ _ (HDR.out k x hx)
      have kz : (k : Int) + 2 < (n : Int) := by omega
      have kp : (0 : Int) ≤ (k : Int) + 2 := by omega
      have kt : ((k : Int) + 2).toNat = k + 2 := by omega
      have htx := rText_size hsm x
      have HX := Lib.hid hx
      clear hx
      by_cases h0 : rErr base needs own x = 0
      · have hsn := catR_snoc HC.out h0
        rw [← take_word HX.out, HCAT.out] at hsn
        have HSN := Lib.hid hsn
        have H0 := Lib.hid h0
        clear hsn h0
        go_wp2_with fail
        refine (refRead_any g base needs targets own x _ HO2.out (by have := hsm.lo; omega) (by have := hsm.lb; omega) (by have := hsm.ln; omega)).mono ?_
        rintro e w3 ⟨rfl, rfl⟩
        rw [H0.out]
        generalize hrt : rText base needs own x = tx at *
        clear hrt
        go_wp2
        go_roundw
        case rel => exact ⟨k + 1, by rw [HIL.out]; omega, by go_num, by rw [HSN.out], by rw [HSN.out], rfl⟩
        case measure => simp [intOf]; omega
      · have her := catR_err (r := (ws.drop 2).drop (k + 1)) HC.out h0
        rw [← split_word HX.out] at her
        have hj := HRR.out
        have hne : (catR base needs own (ws.drop 2)).1 ≠ 0 := by rw [her]; exact h0
        rw [joinR, if_neg hne, her] at hj
        have hre := rErr_nn base needs own x
        have tpos : (0 : Int) < rErr base needs own x := by omega
        have HJ := Lib.hid hj
        clear her hne hj h0 hre
        go_wp2_with fail
        refine (refRead_any g base needs targets own x _ HO2.out (by have := hsm.lo; omega) (by have := hsm.lb; omega) (by have := hsm.ln; omega)).mono ?_
        rintro e w3 ⟨rfl, rfl⟩
        go_wp2
        go_ret
        exact ⟨by rw [HJ.out]; rfl, by rw [HJ.out]; exact HO2.out, grown_below hb1 _⟩
    · obtain rfl : k = n - 2 := by omega
      have hall : (ws.drop 2).take (n - 2) = ws.drop 2 := List.take_of_length_le (by rw [HIL.out]; exact Nat.le_refl _)
      have kz : decide (((n - 2 : Nat) : Int) + 2 < (n : Int)) = false := decide_eq_false (by omega)
      have hj := HRR.out
      have h0 := HC.out
      have ha := HCAT.out
      rw [hall] at h0 ha
      rw [joinR, if_pos h0, ha] at hj
      have HJ := Lib.hid hj
      clear hj h0 ha hall
      go_wp2_with fail
      refine (refWrite_any g base needs targets own W1 _ _ HO2.out hsm.ro (by have := hsm.lo; omega) (by have := hsm.lt; omega)).mono ?_
      rintro e w3 ⟨rfl, hov, hg⟩
      have HV := Lib.hid hov
      clear hov
      go_wp2
      go_ret
      exact ⟨by rw [HJ.out]; rfl, by rw [HJ.out]; exact HV.out, grown_trans (grown_below hb1 _) hg⟩

set_option maxHeartbeats 2000000 in
set_option maxRecDepth 100000 in
theorem refRun_copy (g : Nat) (base : List F) (needs targets : List ByteArray) (own : List F) (cmd : ByteArray) (ws : List ByteArray) (n : Nat) (r : Int × List F) (W1 W2 : ByteArray) (w : World) (h : OvB w g base needs targets own) (hsm : Small base needs targets own) (hc : cmd.size ≤ 1000)
    (hws : words cmd = ws) (hn : ws.length = n) (hn9 : n ≤ 1001) (hwd0 : ws[0]? = some (⟨#[99, 111, 112, 121]⟩ : ByteArray)) (hwd1 : ws[1]? = some W1) (hwd2 : ws[2]? = some W2) (hcond : n = 3) (hr : r = passR base needs targets own id W1 W2) :
    Calls Tryd.prog 18 #[.pointer (some ⟨g, 0, none⟩), .string cmd] w (RefRunPost g base needs targets r w) := by
  have hpos : 1 ≤ n := by have := (List.getElem?_eq_some_iff.1 hwd0).1; omega
  have i0 : (0 : Int) < (n : Int) := by omega
  have i1 : (1 : Int) < (n : Int) := by omega
  have i2 : (2 : Int) < (n : Int) := by omega
  have q3 : ((n : Int) == 3) = true := by rw [beq_iff_eq]; omega
  have hcf : (cmd.toList == [102, 97, 105, 108]) = false := cmd_fail hws (by rintro ⟨h1, h2⟩; rw [hwd0] at h1; first | (injection h1 with h1; exact absurd h1 (by first | assumption | decide)) | omega)
  have HOV := Lib.hid h
  have HW := Lib.hid hws
  have HN := Lib.hid hn
  have HRR := Lib.hid hr
  clear h hr
  go_enter Tryd.func18, Tryd.ntmps18
  go_wp2_with fail
  refine (refSplit2_any cmd ws n w (by omega) HW.out HN.out hpos).mono ?_
  clear hws hn
  rintro e w1 ⟨gw, c, rfl, hcap, hgw, hcells, hb1⟩
  have HO2 := Lib.hid (HOV.out.below hb1)
  have c0 : w1.cell? ⟨gw, 0, none⟩ = some (.string (⟨#[99, 111, 112, 121]⟩ : ByteArray)) := hcells 0 _ hwd0
  have c1 : w1.cell? ⟨gw, 1, none⟩ = some (.string W1) := hcells 1 _ hwd1
  have c2 : w1.cell? ⟨gw, 2, none⟩ = some (.string W2) := hcells 2 _ hwd2
  have HCE := Lib.hid hcells
  clear hcells
  have htx := rText_size hsm W1
  by_cases h0 : rErr base needs own W1 = 0
  · have hj := HRR.out
    rw [passR, if_pos h0] at hj
    have H0 := Lib.hid h0
    have HJ := Lib.hid hj
    clear h0 hj
    go_wp2_with fail
    refine (refRead_any g base needs targets own W1 _ HO2.out (by have := hsm.lo; omega) (by have := hsm.lb; omega) (by have := hsm.ln; omega)).mono ?_
    rintro e w3 ⟨rfl, rfl⟩
    rw [H0.out]
    generalize hrt : rText base needs own W1 = tx at *
    have HRT := Lib.hid hrt
    clear hrt
    go_wp2
    go_loopw [18, 19] (fun s i wr => PsRel w1 tx id s i wr) (fun _ i _ => tx.size - (intOf i).toNat)
    case atStart => exact ⟨0, Nat.zero_le _, rfl, by rw [ext_none]; rfl, rfl⟩
    case round =>
      obtain ⟨k, hk, rfl, rfl, rfl⟩ := hrel.ex
      clear hrel
      by_cases hlt : k < tx.size
      · have kz : (k : Int) < (tx.size : Int) := by omega
        have kz1 : (k : Int) + 1 ≤ (tx.size : Int) := by omega
        have hz1 : (id (tx.extract 0 k)).size + (tx.extract k (k + 1)).size ≤ 100 := by rw [id, ext_size tx 0 k hk, ext_size tx k (k + 1) (by omega)]; omega
        have HST := Lib.hid (show id (tx.extract 0 k) ++ tx.extract k (k + 1) = id (tx.extract 0 (k + 1)) from copy_step tx k hlt)
        go_wp2
        go_roundw
        case rel => exact ⟨k + 1, by omega, by go_num, by first | exact congrArg Value.string HST.out | rfl, rfl⟩
        case measure => simp [intOf]; omega
      · obtain rfl : k = tx.size := by omega
        have HWH := Lib.hid (ext_whole tx)
        go_wp2_with fail
        refine (refWrite_any g base needs targets own W2 _ _ HO2.out hsm.ro (by have := hsm.lo; omega) (by have := hsm.lt; omega)).mono ?_
        rintro e w3 ⟨rfl, hov, hg⟩
        have hj := HJ.out
        rw [ext_whole] at *
        have HV := Lib.hid hov
        have HJ' := Lib.hid hj
        clear hov hj
        go_wp2
        go_ret
        exact ⟨by rw [HJ'.out]; rfl, by rw [HJ'.out]; exact HV.out, grown_trans (grown_below hb1 _) hg⟩
  · have hj := HRR.out
    rw [passR, if_neg h0] at hj
    have hre := rErr_nn base needs own W1
    have tpos : (0 : Int) < rErr base needs own W1 := by omega
    have HJ := Lib.hid hj
    clear hj h0 hre
    go_wp2_with fail
    refine (refRead_any g base needs targets own W1 _ HO2.out (by have := hsm.lo; omega) (by have := hsm.lb; omega) (by have := hsm.ln; omega)).mono ?_
    rintro e w3 ⟨rfl, rfl⟩
    go_wp2
    go_ret
    exact ⟨by rw [HJ.out]; rfl, by rw [HJ.out]; exact HO2.out, grown_below hb1 _⟩

set_option maxHeartbeats 2000000 in
set_option maxRecDepth 100000 in
theorem refRun_turn (g : Nat) (base : List F) (needs targets : List ByteArray) (own : List F) (cmd : ByteArray) (ws : List ByteArray) (n : Nat) (r : Int × List F) (W1 W2 : ByteArray) (w : World) (h : OvB w g base needs targets own) (hsm : Small base needs targets own) (hc : cmd.size ≤ 1000)
    (hws : words cmd = ws) (hn : ws.length = n) (hn9 : n ≤ 1001) (hwd0 : ws[0]? = some (⟨#[116, 117, 114, 110]⟩ : ByteArray)) (hwd1 : ws[1]? = some W1) (hwd2 : ws[2]? = some W2) (hcond : n = 3) (hr : r = passR base needs targets own revT W1 W2) :
    Calls Tryd.prog 18 #[.pointer (some ⟨g, 0, none⟩), .string cmd] w (RefRunPost g base needs targets r w) := by
  have hpos : 1 ≤ n := by have := (List.getElem?_eq_some_iff.1 hwd0).1; omega
  have i0 : (0 : Int) < (n : Int) := by omega
  have i1 : (1 : Int) < (n : Int) := by omega
  have i2 : (2 : Int) < (n : Int) := by omega
  have q3 : ((n : Int) == 3) = true := by rw [beq_iff_eq]; omega
  have hcf : (cmd.toList == [102, 97, 105, 108]) = false := cmd_fail hws (by rintro ⟨h1, h2⟩; rw [hwd0] at h1; first | (injection h1 with h1; exact absurd h1 (by first | assumption | decide)) | omega)
  have HOV := Lib.hid h
  have HW := Lib.hid hws
  have HN := Lib.hid hn
  have HRR := Lib.hid hr
  clear h hr
  go_enter Tryd.func18, Tryd.ntmps18
  go_wp2_with fail
  refine (refSplit2_any cmd ws n w (by omega) HW.out HN.out hpos).mono ?_
  clear hws hn
  rintro e w1 ⟨gw, c, rfl, hcap, hgw, hcells, hb1⟩
  have HO2 := Lib.hid (HOV.out.below hb1)
  have c0 : w1.cell? ⟨gw, 0, none⟩ = some (.string (⟨#[116, 117, 114, 110]⟩ : ByteArray)) := hcells 0 _ hwd0
  have c1 : w1.cell? ⟨gw, 1, none⟩ = some (.string W1) := hcells 1 _ hwd1
  have c2 : w1.cell? ⟨gw, 2, none⟩ = some (.string W2) := hcells 2 _ hwd2
  have HCE := Lib.hid hcells
  clear hcells
  have htx := rText_size hsm W1
  by_cases h0 : rErr base needs own W1 = 0
  · have hj := HRR.out
    rw [passR, if_pos h0] at hj
    have H0 := Lib.hid h0
    have HJ := Lib.hid hj
    clear h0 hj
    go_wp2_with fail
    refine (refRead_any g base needs targets own W1 _ HO2.out (by have := hsm.lo; omega) (by have := hsm.lb; omega) (by have := hsm.ln; omega)).mono ?_
    rintro e w3 ⟨rfl, rfl⟩
    rw [H0.out]
    generalize hrt : rText base needs own W1 = tx at *
    have HRT := Lib.hid hrt
    clear hrt
    go_wp2
    go_loopw [18, 19] (fun s i wr => PsRel w1 tx revT s i wr) (fun _ i _ => tx.size - (intOf i).toNat)
    case atStart => exact ⟨0, Nat.zero_le _, rfl, by rw [ext_none]; rfl, rfl⟩
    case round =>
      obtain ⟨k, hk, rfl, rfl, rfl⟩ := hrel.ex
      clear hrel
      by_cases hlt : k < tx.size
      · have kz : (k : Int) < (tx.size : Int) := by omega
        have kz1 : (k : Int) + 1 ≤ (tx.size : Int) := by omega
        have hz1 : (tx.extract k (k + 1)).size + (revT (tx.extract 0 k)).size ≤ 100 := by rw [revT_size, ext_size tx 0 k hk, ext_size tx k (k + 1) (by omega)]; omega
        have HST := Lib.hid (turn_step tx k hlt)
        go_wp2
        go_roundw
        case rel => exact ⟨k + 1, by omega, by go_num, by first | exact congrArg Value.string HST.out | rfl, rfl⟩
        case measure => simp [intOf]; omega
      · obtain rfl : k = tx.size := by omega
        have HWH := Lib.hid (ext_whole tx)
        go_wp2_with fail
        refine (refWrite_any g base needs targets own W2 _ _ HO2.out hsm.ro (by have := hsm.lo; omega) (by have := hsm.lt; omega)).mono ?_
        rintro e w3 ⟨rfl, hov, hg⟩
        have hj := HJ.out
        rw [ext_whole] at *
        have HV := Lib.hid hov
        have HJ' := Lib.hid hj
        clear hov hj
        go_wp2
        go_ret
        exact ⟨by rw [HJ'.out]; rfl, by rw [HJ'.out]; exact HV.out, grown_trans (grown_below hb1 _) hg⟩
  · have hj := HRR.out
    rw [passR, if_neg h0] at hj
    have hre := rErr_nn base needs own W1
    have tpos : (0 : Int) < rErr base needs own W1 := by omega
    have HJ := Lib.hid hj
    clear hj h0 hre
    go_wp2_with fail
    refine (refRead_any g base needs targets own W1 _ HO2.out (by have := hsm.lo; omega) (by have := hsm.lb; omega) (by have := hsm.ln; omega)).mono ?_
    rintro e w3 ⟨rfl, rfl⟩
    go_wp2
    go_ret
    exact ⟨by rw [HJ.out]; rfl, by rw [HJ.out]; exact HO2.out, grown_below hb1 _⟩

set_option maxHeartbeats 2000000 in
set_option maxRecDepth 100000 in
theorem refRun_swap (g : Nat) (base : List F) (needs targets : List ByteArray) (own : List F) (cmd : ByteArray) (ws : List ByteArray) (n : Nat) (r : Int × List F) (W1 W2 W3 W4 : ByteArray) (w : World) (h : OvB w g base needs targets own) (hsm : Small base needs targets own) (hc : cmd.size ≤ 1000)
    (hws : words cmd = ws) (hn : ws.length = n) (hn9 : n ≤ 1001) (hwd0 : ws[0]? = some (⟨#[115, 119, 97, 112]⟩ : ByteArray)) (hwd1 : ws[1]? = some W1) (hwd2 : ws[2]? = some W2) (hwd3 : ws[3]? = some W3) (hwd4 : ws[4]? = some W4) (hcond : n = 5) (hs3 : W3.size = 1) (hs4 : W4.size = 1) (hr : r = passR base needs targets own (fun s => swT s (byteAt W3 0) (byteAt W4 0)) W1 W2) :
    Calls Tryd.prog 18 #[.pointer (some ⟨g, 0, none⟩), .string cmd] w (RefRunPost g base needs targets r w) := by
  have hpos : 1 ≤ n := by have := (List.getElem?_eq_some_iff.1 hwd0).1; omega
  have i0 : (0 : Int) < (n : Int) := by omega
  have i1 : (1 : Int) < (n : Int) := by omega
  have i2 : (2 : Int) < (n : Int) := by omega
  have q5 : ((n : Int) == 5) = true := by rw [beq_iff_eq]; omega
  have i3 : (3 : Int) < (n : Int) := by omega
  have i4 : (4 : Int) < (n : Int) := by omega
  have z3 : ((W3.size : Int) == 1) = true := by rw [beq_iff_eq]; omega
  have z4 : ((W4.size : Int) == 1) = true := by rw [beq_iff_eq]; omega
  have hcf : (cmd.toList == [102, 97, 105, 108]) = false := cmd_fail hws (by rintro ⟨h1, h2⟩; rw [hwd0] at h1; first | (injection h1 with h1; exact absurd h1 (by first | assumption | decide)) | omega)
  have HOV := Lib.hid h
  have HW := Lib.hid hws
  have HN := Lib.hid hn
  have HRR := Lib.hid hr
  clear h hr
  go_enter Tryd.func18, Tryd.ntmps18
  go_wp2_with fail
  refine (refSplit2_any cmd ws n w (by omega) HW.out HN.out hpos).mono ?_
  clear hws hn
  rintro e w1 ⟨gw, c, rfl, hcap, hgw, hcells, hb1⟩
  have HO2 := Lib.hid (HOV.out.below hb1)
  have c0 : w1.cell? ⟨gw, 0, none⟩ = some (.string (⟨#[115, 119, 97, 112]⟩ : ByteArray)) := hcells 0 _ hwd0
  have c1 : w1.cell? ⟨gw, 1, none⟩ = some (.string W1) := hcells 1 _ hwd1
  have c2 : w1.cell? ⟨gw, 2, none⟩ = some (.string W2) := hcells 2 _ hwd2
  have c3 : w1.cell? ⟨gw, 3, none⟩ = some (.string W3) := hcells 3 _ hwd3
  have c4 : w1.cell? ⟨gw, 4, none⟩ = some (.string W4) := hcells 4 _ hwd4
  have HCE := Lib.hid hcells
  clear hcells
  have htx := rText_size hsm W1
  by_cases h0 : rErr base needs own W1 = 0
  · have hj := HRR.out
    rw [passR, if_pos h0] at hj
    have H0 := Lib.hid h0
    have HJ := Lib.hid hj
    clear h0 hj
    go_wp2_with fail
    refine (refRead_any g base needs targets own W1 _ HO2.out (by have := hsm.lo; omega) (by have := hsm.lb; omega) (by have := hsm.ln; omega)).mono ?_
    rintro e w3 ⟨rfl, rfl⟩
    rw [H0.out]
    generalize hrt : rText base needs own W1 = tx at *
    have HRT := Lib.hid hrt
    clear hrt
    go_wp2
    go_loopw [18, 19] (fun s i wr => PsRel w1 tx (fun s => swT s (byteAt W3 0) (byteAt W4 0)) s i wr) (fun _ i _ => tx.size - (intOf i).toNat)
    case atStart => exact ⟨0, Nat.zero_le _, rfl, by rw [ext_none]; rfl, rfl⟩
    case round =>
      obtain ⟨k, hk, rfl, rfl, rfl⟩ := hrel.ex
      clear hrel
      by_cases hlt : k < tx.size
      · have kz : (k : Int) < (tx.size : Int) := by omega
        have kz1 : (k : Int) + 1 ≤ (tx.size : Int) := by omega
        have hz1 : (swT (tx.extract 0 k) (byteAt W3 0) (byteAt W4 0)).size + (tx.extract k (k + 1)).size ≤ 100 ∧ (swT (tx.extract 0 k) (byteAt W3 0) (byteAt W4 0)).size + W4.size ≤ 100 := by rw [swT_size, ext_size tx 0 k hk, ext_size tx k (k + 1) (by omega)]; omega
        generalize hfs : swT (tx.extract 0 k) (byteAt W3 0) (byteAt W4 0) = a at *
        cases hq : ((tx.extract k (k + 1)).toList == W3.toList) with
        | true =>
          have hst := swap_yes hlt hs3 hs4 hq
          rw [hfs] at hst
          have HST := Lib.hid hst
          clear hst hfs
          go_wp2
          go_roundw
          case rel => exact ⟨k + 1, by omega, by go_num, by first | exact congrArg Value.string HST.out | rfl, rfl⟩
          case measure => simp [intOf]; omega
        | false =>
          have hst := swap_not (W4 := W4) hlt hs3 hq
          rw [hfs] at hst
          have HST := Lib.hid hst
          clear hst hfs
          go_wp2
          go_roundw
          case rel => exact ⟨k + 1, by omega, by go_num, by first | exact congrArg Value.string HST.out | rfl, rfl⟩
          case measure => simp [intOf]; omega
      · obtain rfl : k = tx.size := by omega
        have HWH := Lib.hid (ext_whole tx)
        go_wp2_with fail
        refine (refWrite_any g base needs targets own W2 _ _ HO2.out hsm.ro (by have := hsm.lo; omega) (by have := hsm.lt; omega)).mono ?_
        rintro e w3 ⟨rfl, hov, hg⟩
        have hj := HJ.out
        rw [ext_whole] at *
        have HV := Lib.hid hov
        have HJ' := Lib.hid hj
        clear hov hj
        go_wp2
        go_ret
        exact ⟨by rw [HJ'.out]; rfl, by rw [HJ'.out]; exact HV.out, grown_trans (grown_below hb1 _) hg⟩
  · have hj := HRR.out
    rw [passR, if_neg h0] at hj
    have hre := rErr_nn base needs own W1
    have tpos : (0 : Int) < rErr base needs own W1 := by omega
    have HJ := Lib.hid hj
    clear hj h0 hre
    go_wp2_with fail
    refine (refRead_any g base needs targets own W1 _ HO2.out (by have := hsm.lo; omega) (by have := hsm.lb; omega) (by have := hsm.ln; omega)).mono ?_
    rintro e w3 ⟨rfl, rfl⟩
    go_wp2
    go_ret
    exact ⟨by rw [HJ.out]; rfl, by rw [HJ.out]; exact HO2.out, grown_below hb1 _⟩

theorem refRun_any (g : Nat) (base : List F) (needs targets : List ByteArray) (own : List F) (cmd : ByteArray) (w : World) (h : OvB w g base needs targets own) (hsm : Small base needs targets own) (hc : cmd.size ≤ 1000) :
    Calls Tryd.prog 18 #[.pointer (some ⟨g, 0, none⟩), .string cmd] w (RefRunPost g base needs targets (runR base needs targets own (words cmd)) w) := by
  have hp := words_pos cmd
  have hl := words_len cmd
  generalize hws : words cmd = ws at hp hl ⊢
  generalize hn : ws.length = n at hp hl
  have hn9 : n ≤ 1001 := by omega
  have w0 : ws[0]? = some (wd ws 0) := wd_at (by omega)
  by_cases a1 : wd ws 0 = cPut
  · rw [a1] at w0
    by_cases b : 3 ≤ n
    · exact refRun_put g base needs targets own cmd ws n _ _ (wd ws 1) w h hsm hc hws hn hn9 w0 (wd_at (by omega)) rfl b (by simp [runR, a1, hn, b])
    · exact refRun_put_no g base needs targets own cmd ws n _ w h hsm hc hws hn hn9 w0 (by omega) (by simp [runR, a1, hn, b, cPut, cCopy, cTurn, cSwap, cJoin, cNeed, cFail])
  by_cases a2 : wd ws 0 = cCopy
  · rw [a2] at w0
    by_cases b : n = 3
    · exact refRun_copy g base needs targets own cmd ws n _ (wd ws 1) (wd ws 2) w h hsm hc hws hn hn9 w0 (wd_at (by omega)) (wd_at (by omega)) b (by simp [runR, a2, hn, b, cPut, cCopy])
    · exact refRun_copy_no g base needs targets own cmd ws n _ w h hsm hc hws hn hn9 w0 b (by simp [runR, a2, hn, b, cPut, cCopy, cTurn, cSwap, cJoin, cNeed, cFail])
  by_cases a3 : wd ws 0 = cTurn
  · rw [a3] at w0
    by_cases b : n = 3
    · exact refRun_turn g base needs targets own cmd ws n _ (wd ws 1) (wd ws 2) w h hsm hc hws hn hn9 w0 (wd_at (by omega)) (wd_at (by omega)) b (by simp [runR, a3, hn, b, cPut, cCopy, cTurn])
    · exact refRun_turn_no g base needs targets own cmd ws n _ w h hsm hc hws hn hn9 w0 b (by simp [runR, a3, hn, b, cPut, cCopy, cTurn, cSwap, cJoin, cNeed, cFail])
  by_cases a4 : wd ws 0 = cSwap
  · rw [a4] at w0
    by_cases b : n = 5
    · by_cases s3 : (wd ws 3).size = 1
      · by_cases s4 : (wd ws 4).size = 1
        · exact refRun_swap g base needs targets own cmd ws n _ (wd ws 1) (wd ws 2) (wd ws 3) (wd ws 4) w h hsm hc hws hn hn9 w0 (wd_at (by omega)) (wd_at (by omega)) (wd_at (by omega)) (wd_at (by omega)) b s3 s4 (by simp [runR, a4, hn, b, s3, s4, cPut, cCopy, cTurn, cSwap])
        · exact refRun_swap_n4 g base needs targets own cmd ws n _ (wd ws 3) (wd ws 4) w h hsm hc hws hn hn9 w0 (wd_at (by omega)) (wd_at (by omega)) b s3 s4 (by simp [runR, a4, hn, b, s3, s4, cPut, cCopy, cTurn, cSwap, cJoin, cNeed, cFail])
      · exact refRun_swap_n3 g base needs targets own cmd ws n _ (wd ws 3) w h hsm hc hws hn hn9 w0 (wd_at (by omega)) b s3 (by simp [runR, a4, hn, b, s3, cPut, cCopy, cTurn, cSwap, cJoin, cNeed, cFail])
    · exact refRun_swap_no g base needs targets own cmd ws n _ w h hsm hc hws hn hn9 w0 b (by simp [runR, a4, hn, b, cPut, cCopy, cTurn, cSwap, cJoin, cNeed, cFail])
  by_cases a5 : wd ws 0 = cJoin
  · rw [a5] at w0
    by_cases b : 3 ≤ n
    · exact refRun_join g base needs targets own cmd ws n _ (wd ws 1) w h hsm hc hws hn hn9 w0 (wd_at (by omega)) b (by simp [runR, a5, hn, b, cPut, cCopy, cTurn, cSwap, cJoin])
    · exact refRun_join_no g base needs targets own cmd ws n _ w h hsm hc hws hn hn9 w0 (by omega) (by simp [runR, a5, hn, b, cPut, cCopy, cTurn, cSwap, cJoin, cNeed, cFail])
  by_cases a6 : wd ws 0 = cNeed
  · rw [a6] at w0
    by_cases b : n = 2
    · exact refRun_need g base needs targets own cmd ws n _ (wd ws 1) w h hsm hc hws hn hn9 w0 (wd_at (by omega)) b (by simp [runR, a6, hn, b, cPut, cCopy, cTurn, cSwap, cJoin, cNeed])
    · exact refRun_need_no g base needs targets own cmd ws n _ w h hsm hc hws hn hn9 w0 b (by simp [runR, a6, hn, b, cPut, cCopy, cTurn, cSwap, cJoin, cNeed, cFail])
  by_cases a7 : wd ws 0 = cFail
  · rw [a7] at w0
    by_cases b : n = 1
    · exact refRun_fail g base needs targets own cmd ws n _ w h hsm hc hws hn hn9 w0 b (by simp [runR, a7, hn, b, cPut, cCopy, cTurn, cSwap, cJoin, cNeed, cFail])
    · exact refRun_fail_no g base needs targets own cmd ws n _ w h hsm hc hws hn hn9 w0 b (by simp [runR, a7, hn, b, cPut, cCopy, cTurn, cSwap, cJoin, cNeed, cFail])
  exact refRun_none g base needs targets own cmd ws n _ (wd ws 0) w h hsm hc hws hn hn9 w0 a1 a2 a3 a4 a5 a6 a7 (by simp [runR, a1, a2, a3, a4, a5, a6, a7])
end Go.Proofs.YtmadegpbinnnfaaDoor
