/-
  WALKS: recipe.join: what it comes to, for at most 1000 names.
-/
import Derived.Test.YtmadegpbinnnfaaDoorPass
namespace Go.Proofs.YtmadegpbinnnfaaDoor
open Go.RowKit

theorem ba_ext {a b : ByteArray} (h : a.data.toList = b.data.toList) : a = b := by
  obtain ⟨⟨x⟩⟩ := a
  obtain ⟨⟨y⟩⟩ := b
  have e : x = y := h
  rw [e]
theorem app_data (a b : ByteArray) : (a ++ b).data.toList = a.data.toList ++ b.data.toList := by simp
theorem app_empty (a : ByteArray) : a ++ ByteArray.empty = a := ba_ext (by rw [app_data]; simp)
theorem empty_app (a : ByteArray) : ByteArray.empty ++ a = a := ba_ext (by rw [app_data]; simp)
theorem app_assoc (a b c : ByteArray) : a ++ b ++ c = a ++ (b ++ c) := ba_ext (by simp only [app_data, List.append_assoc])
theorem app_size (a b : ByteArray) : (a ++ b).size = a.size + b.size := by simp
section
variable {base : List F} {needs : List ByteArray} {own : List F}
theorem catR_snoc {l : List ByteArray} {n : ByteArray} (h : (catR base needs own l).1 = 0) (hn : rErr base needs own n = 0) : catR base needs own (l ++ [n]) = (0, (catR base needs own l).2 ++ rText base needs own n) := by
  induction l with
  | nil => simp [catR, hn, app_empty, empty_app]
  | cons m l ih =>
    rw [catR] at h
    by_cases hm : rErr base needs own m = 0
    · rw [if_pos hm] at h
      by_cases hl : (catR base needs own l).1 = 0
      · have ih' := ih hl
        rw [List.cons_append, catR, if_pos hm, ih', catR, if_pos hm, if_pos hl]
        simp [app_assoc]
      · rw [if_neg hl] at h; exact absurd h hl
    · rw [if_neg hm] at h; exact absurd h hm
theorem catR_err {l r : List ByteArray} {n : ByteArray} (h : (catR base needs own l).1 = 0) (hn : rErr base needs own n ≠ 0) : (catR base needs own (l ++ n :: r)).1 = rErr base needs own n := by
  induction l with
  | nil => simp [catR, hn]
  | cons m l ih =>
    rw [catR] at h
    by_cases hm : rErr base needs own m = 0
    · rw [if_pos hm] at h
      by_cases hl : (catR base needs own l).1 = 0
      · have ih' := ih hl
        rw [List.cons_append, catR, if_pos hm, ih', if_neg hn]
      · rw [if_neg hl] at h; exact absurd h hl
    · rw [if_neg hm] at h; exact absurd h hm
end
theorem take_word {l : List ByteArray} {k : Nat} {n : ByteArray} (h : l[k]? = some n) : l.take (k + 1) = l.take k ++ [n] := by
  obtain ⟨hl, rfl⟩ := List.getElem?_eq_some_iff.1 h
  exact List.take_succ_eq_append_getElem hl
theorem split_word {l : List ByteArray} {k : Nat} {n : ByteArray} (h : l[k]? = some n) : l = l.take k ++ n :: l.drop (k + 1) := by
  obtain ⟨hl, rfl⟩ := List.getElem?_eq_some_iff.1 h
  rw [← List.drop_eq_getElem_cons hl, List.take_append_drop]
/-- A text that is cut off behind its twentieth byte at the earliest. -/
def Trun (a t : ByteArray) : Prop := (a.size ≤ 20 → a = t) ∧ (20 < a.size → 20 < t.size)
theorem writeR_trun {targets : List ByteArray} {own : List F} {a t : ByteArray} (h : Trun a t) (out : ByteArray) : writeR targets own out a = writeR targets own out t := by
  by_cases hs : a.size ≤ 20
  · rw [h.1 hs]
  · have h2 := h.2 (by omega)
    have h1 : 20 < a.size := by omega
    simp [writeR, wErr, wOwn, h1, h2]
structure JnRel (w : World) (base : List F) (needs : List ByteArray) (own : List F) (ins : List ByteArray) (s i : Value) (wr : World) : Prop where
  ex : ∃ (k : Nat) (a : ByteArray), k ≤ ins.length ∧ i = .int .i64 k ∧ s = .string a ∧ a.size ≤ 80 ∧ (catR base needs own (ins.take k)).1 = 0 ∧ Trun a (catR base needs own (ins.take k)).2 ∧ Below w.heap.size w wr

set_option maxHeartbeats 2000000 in
set_option maxRecDepth 100000 in
theorem join_any (g : Nat) (base : List F) (needs targets : List ByteArray) (own : List F) (out : ByteArray) (A : Option Addr) (n c : Nat) (ins : List ByteArray) (w : World) (h : OvA w g base needs targets own) (hsm : Small base needs targets own)
    (hr : RdS w w.heap.size A n c ins) (hn : n ≤ 1000) :
    Calls Tryd.prog 35 #[.pointer (some ⟨g, 0, none⟩), .string out, .slice A n c] w (RunPost g base needs targets (joinR base needs targets own out ins) w) := by
  have HO := Lib.hid h
  have HR := Lib.hid hr
  have HL := Lib.hid hr.1
  have HTS := Lib.hid (fun x => rText_size hsm x)
  clear h hr
  generalize hjr : joinR base needs targets own out ins = r
  have HJ := Lib.hid hjr
  clear hjr
  go_enter Tryd.func35, Tryd.ntmps35
  go_wp2
  go_loopw [7, 14] (fun s i wr => JnRel w base needs own ins s i wr) (fun _ i _ => n - (intOf i).toNat)
  case atStart => exact ⟨0, ⟨#[]⟩, Nat.zero_le _, rfl, rfl, by decide, rfl, ⟨fun _ => rfl, fun h => absurd h (by decide)⟩, Below.refl _ _⟩
  case round =>
    obtain ⟨k, a, hk, rfl, rfl, has, hc0, htr, hb⟩ := hrel.ex
    clear hrel
    have hkn : k ≤ n := by rw [← HL.out]; exact hk
    clear hk
    have HC := Lib.hid hc0
    have HT := Lib.hid htr
    clear hc0 htr
    by_cases hlt : k < n
    · obtain ⟨x, hx⟩ : ∃ x, ins[k]? = some x := ⟨_, List.getElem?_eq_getElem (by rw [HL.out]; exact hlt)⟩
      obtain ⟨b', off, rfl, hbb, hc⟩ := HR.out.at_ hx
      have hcw : wr.cell? ⟨b', off + k, none⟩ = some (.string x) := (hb.cell (p := ⟨b', off + k, none⟩) hbb).trans hc
      have HX := Lib.hid hx
      have hkz : (k : Int) < (n : Int) := by omega
      have htx := HTS.out x
      clear hx hc
      by_cases h0 : rErr base needs own x = 0
      · have hsn := catR_snoc HC.out h0
        rw [← take_word HX.out] at hsn
        have HSN := Lib.hid hsn
        have H0 := Lib.hid h0
        clear hsn h0
        go_wp2_with fail
        refine (read_any g base needs targets own x wr (HO.out.below hb) hsm.ro hsm.rb (by have := hsm.lo; omega) (by have := hsm.lb; omega) (by have := hsm.ln; omega)).mono ?_
        rintro e w1 ⟨rfl, hb1⟩
        rw [H0.out, errV_zero]
        have hbw : Below w.heap.size w w1 := hb.trans (hb1.mono hb.size)
        generalize hrt : rText base needs own x = tx at *
        clear hrt
        by_cases h20 : a.size ≤ 20
        · have t1 : (a.size : Int) ≤ 20 := by omega
          have hsum : a.size + tx.size ≤ 80 := by omega
          go_wp2
          go_roundw
          case rel =>
            refine ⟨k + 1, _, by rw [HL.out]; omega, by go_num, rfl, by rw [app_size]; omega, by rw [HSN.out], ?_, hbw⟩
            rw [HSN.out, ← HT.out.1 h20]
            exact ⟨fun _ => rfl, fun h => h⟩
          case measure => simp [intOf]; omega
        · have t1 : decide ((a.size : Int) ≤ 20) = false := decide_eq_false (by omega)
          go_wp2
          go_roundw
          case rel =>
            refine ⟨k + 1, _, by rw [HL.out]; omega, by go_num, rfl, has, by rw [HSN.out], ?_, hbw⟩
            rw [HSN.out]
            have := HT.out.2 (by omega)
            exact ⟨fun h => absurd h h20, fun _ => by rw [app_size]; omega⟩
          case measure => simp [intOf]; omega
      · have her := catR_err (r := ins.drop (k + 1)) HC.out h0
        rw [← split_word HX.out] at her
        have hj := HJ.out
        have hne : (catR base needs own ins).1 ≠ 0 := by rw [her]; exact h0
        rw [joinR, if_neg hne, her] at hj
        have H0 := Lib.hid (errV_ne h0)
        have HJ' := Lib.hid hj
        clear her hne hj h0
        go_wp2_with fail
        refine (read_any g base needs targets own x wr (HO.out.below hb) hsm.ro hsm.rb (by have := hsm.lo; omega) (by have := hsm.lb; omega) (by have := hsm.ln; omega)).mono ?_
        rintro e w1 ⟨rfl, hb1⟩
        rw [H0.out]
        have hbw : Below w.heap.size w w1 := hb.trans (hb1.mono hb.size)
        go_wp2
        go_ret
        exact ⟨by rw [← HJ'.out, H0.out]; rfl, by rw [← HJ'.out]; exact HO.out.below hbw, grown_below hbw _⟩
    · obtain rfl : k = n := by omega
      have et : ins.take k = ins := List.take_of_length_le (by rw [HL.out]; omega)
      have hj := HJ.out
      have hc := HC.out
      have ht := HT.out
      rw [et] at hc ht
      rw [joinR, if_pos hc, ← writeR_trun ht] at hj
      have HJ' := Lib.hid hj
      clear hj hc ht et
      go_wp2_with fail
      refine (write_any g base needs targets own out a wr (HO.out.below hb) hsm.ro (by have := hsm.lo; omega) (by have := hsm.lt; omega)).mono ?_
      rintro e w3 ⟨rfl, hov, hg⟩
      have HV := Lib.hid hov
      clear hov
      go_wp2
      go_ret
      exact ⟨by rw [← HJ'.out]; rfl, by rw [← HJ'.out]; exact HV.out, grown_trans (grown_below hb _) hg⟩
end Go.Proofs.YtmadegpbinnnfaaDoor
