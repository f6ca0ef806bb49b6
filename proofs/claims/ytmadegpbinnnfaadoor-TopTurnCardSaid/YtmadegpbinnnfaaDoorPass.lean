/-
  WALKS: recipe.pass (with each of its three functions), recipe.need, recipe.join: what each comes to.
-/
import Derived.Test.YtmadegpbinnnfaaDoorRunSpec
namespace Go.Proofs.YtmadegpbinnnfaaDoor
open Go.RowKit

theorem errV_zero : errV 0 = .nilIface := rfl
theorem errV_ne {k : Int} (h : k ≠ 0) : errV k = .iface 23 (.int .i64 k) := by unfold errV; rw [if_neg h]
/-- What a call on the project's overlay leaves. -/
def RunPost (g : Nat) (base : List F) (needs targets : List ByteArray) (r : Int × List F) (w : World) (e : Ending) (w' : World) : Prop :=
  e = .returned (errV r.1) ∧ OvA w' g base needs targets r.2 ∧ w.grownBy w' (some g)
/-- The sizes that are asked throughout. -/
structure Small (base : List F) (needs targets : List ByteArray) (own : List F) : Prop where
  rb : Rises base
  ro : Rises own
  lb : base.length ≤ 800000
  lo : own.length ≤ 800000
  ln : needs.length ≤ 800000
  lt : targets.length ≤ 800000
  sb : ∀ f ∈ base, f.2.size ≤ 60
  so : ∀ f ∈ own, f.2.size ≤ 60
theorem textF_size {l : List F} (h : ∀ f ∈ l, f.2.size ≤ 60) (x : ByteArray) : (textF l x).size ≤ 60 := by
  unfold textF
  cases e : l.find? (fun f => f.1 == x) with
  | none => simp
  | some f => simpa using h f (List.mem_of_find?_eq_some e)
theorem rText_size {base : List F} {needs targets : List ByteArray} {own : List F} (h : Small base needs targets own) (x : ByteArray) : (rText base needs own x).size ≤ 60 := by
  unfold rText
  split
  · exact textF_size h.so x
  · split
    · exact textF_size h.sb x
    · exact Nat.zero_le _

set_option maxHeartbeats 400000 in
theorem copyFn_any (s : ByteArray) (w : World) : Calls Tryd.prog 31 #[.string s] w fun e w' => e = .returned (.string s) ∧ Below w.heap.size w w' := by
  go_enter Tryd.func31, Tryd.ntmps31
  go_wp2
  go_ret
  exact ⟨rfl, Below.refl _ _⟩

set_option maxHeartbeats 1000000 in
set_option maxRecDepth 100000 in
theorem pass_copy (g : Nat) (base : List F) (needs targets : List ByteArray) (own : List F) (f : ByteArray → ByteArray) (inn out : ByteArray) (w : World) (h : OvA w g base needs targets own) (hsm : Small base needs targets own)
    (hf : ∀ (t : ByteArray) (W : World), t.size ≤ 60 → Below w.heap.size w W → Calls Tryd.prog 31 #[.string t] W fun e w' => e = .returned (.string (f t)) ∧ Below W.heap.size W w') :
    Calls Tryd.prog 30 #[.pointer (some ⟨g, 0, none⟩), .string inn, .string out, .func (.func 31) #[] #[]] w (RunPost g base needs targets (passR base needs targets own f inn out) w) := by
  have HF := Lib.hid hf
  have HO := Lib.hid h
  have hts := rText_size hsm inn
  clear hf h
  by_cases h0 : rErr base needs own inn = 0
  · have e1 : passR base needs targets own f inn out = writeR targets own out (f (rText base needs own inn)) := by simp [passR, h0]
    rw [e1]
    have H0 := Lib.hid h0
    clear h0 e1
    go_enter Tryd.func30, Tryd.ntmps30
    go_wp2_with fail
    refine (read_any g base needs targets own inn w HO.out hsm.ro hsm.rb (by have := hsm.lo; omega) (by have := hsm.lb; omega) (by have := hsm.ln; omega)).mono ?_
    rintro e w1 ⟨rfl, hb1⟩
    rw [H0.out, errV_zero]
    generalize rText base needs own inn = tx at *
    go_wp2_with fail
    refine (HF.out tx w1 hts hb1).mono ?_
    rintro e w2 ⟨rfl, hb2⟩
    have hb12 : Below w.heap.size w w2 := hb1.trans (hb2.mono hb1.size)
    go_wp2_with fail
    refine (write_any g base needs targets own out (f tx) w2 (HO.out.below hb12) hsm.ro (by have := hsm.lo; omega) (by have := hsm.lt; omega)).mono ?_
    rintro e w3 ⟨rfl, hov, hg⟩
    have HV := Lib.hid hov
    clear hov
    go_wp2
    go_ret
    exact ⟨rfl, HV.out, grown_trans (grown_below hb12 _) hg⟩
  · have e1 : passR base needs targets own f inn out = (rErr base needs own inn, own) := by simp [passR, h0]
    rw [e1]
    have H0 := Lib.hid (errV_ne h0)
    clear h0 e1
    go_enter Tryd.func30, Tryd.ntmps30
    go_wp2_with fail
    refine (read_any g base needs targets own inn w HO.out hsm.ro hsm.rb (by have := hsm.lo; omega) (by have := hsm.lb; omega) (by have := hsm.ln; omega)).mono ?_
    rintro e w1 ⟨rfl, hb1⟩
    rw [H0.out]
    go_wp2
    go_ret
    exact ⟨by rw [H0.out]; rfl, HO.out.below hb1, grown_below hb1 _⟩

set_option maxHeartbeats 1000000 in
set_option maxRecDepth 100000 in
theorem pass_turn (g : Nat) (base : List F) (needs targets : List ByteArray) (own : List F) (f : ByteArray → ByteArray) (inn out : ByteArray) (w : World) (h : OvA w g base needs targets own) (hsm : Small base needs targets own)
    (hf : ∀ (t : ByteArray) (W : World), t.size ≤ 60 → Below w.heap.size w W → Calls Tryd.prog 32 #[.string t] W fun e w' => e = .returned (.string (f t)) ∧ Below W.heap.size W w') :
    Calls Tryd.prog 30 #[.pointer (some ⟨g, 0, none⟩), .string inn, .string out, .func (.func 32) #[] #[]] w (RunPost g base needs targets (passR base needs targets own f inn out) w) := by
  have HF := Lib.hid hf
  have HO := Lib.hid h
  have hts := rText_size hsm inn
  clear hf h
  by_cases h0 : rErr base needs own inn = 0
  · have e1 : passR base needs targets own f inn out = writeR targets own out (f (rText base needs own inn)) := by simp [passR, h0]
    rw [e1]
    have H0 := Lib.hid h0
    clear h0 e1
    go_enter Tryd.func30, Tryd.ntmps30
    go_wp2_with fail
    refine (read_any g base needs targets own inn w HO.out hsm.ro hsm.rb (by have := hsm.lo; omega) (by have := hsm.lb; omega) (by have := hsm.ln; omega)).mono ?_
    rintro e w1 ⟨rfl, hb1⟩
    rw [H0.out, errV_zero]
    generalize rText base needs own inn = tx at *
    go_wp2_with fail
    refine (HF.out tx w1 hts hb1).mono ?_
    rintro e w2 ⟨rfl, hb2⟩
    have hb12 : Below w.heap.size w w2 := hb1.trans (hb2.mono hb1.size)
    go_wp2_with fail
    refine (write_any g base needs targets own out (f tx) w2 (HO.out.below hb12) hsm.ro (by have := hsm.lo; omega) (by have := hsm.lt; omega)).mono ?_
    rintro e w3 ⟨rfl, hov, hg⟩
    have HV := Lib.hid hov
    clear hov
    go_wp2
    go_ret
    exact ⟨rfl, HV.out, grown_trans (grown_below hb12 _) hg⟩
  · have e1 : passR base needs targets own f inn out = (rErr base needs own inn, own) := by simp [passR, h0]
    rw [e1]
    have H0 := Lib.hid (errV_ne h0)
    clear h0 e1
    go_enter Tryd.func30, Tryd.ntmps30
    go_wp2_with fail
    refine (read_any g base needs targets own inn w HO.out hsm.ro hsm.rb (by have := hsm.lo; omega) (by have := hsm.lb; omega) (by have := hsm.ln; omega)).mono ?_
    rintro e w1 ⟨rfl, hb1⟩
    rw [H0.out]
    go_wp2
    go_ret
    exact ⟨by rw [H0.out]; rfl, HO.out.below hb1, grown_below hb1 _⟩

set_option maxHeartbeats 1000000 in
set_option maxRecDepth 100000 in
theorem pass_swap (g : Nat) (base : List F) (needs targets : List ByteArray) (own : List F) (f : ByteArray → ByteArray) (inn out : ByteArray) (cb : Value) (w : World) (h : OvA w g base needs targets own) (hsm : Small base needs targets own)
    (hf : ∀ (t : ByteArray) (W : World), t.size ≤ 60 → Below w.heap.size w W → Calls Tryd.prog 33 #[.string t, cb] W fun e w' => e = .returned (.string (f t)) ∧ Below W.heap.size W w') :
    Calls Tryd.prog 30 #[.pointer (some ⟨g, 0, none⟩), .string inn, .string out, .func (.func 33) #[] #[cb]] w (RunPost g base needs targets (passR base needs targets own f inn out) w) := by
  have HF := Lib.hid hf
  have HO := Lib.hid h
  have hts := rText_size hsm inn
  clear hf h
  by_cases h0 : rErr base needs own inn = 0
  · have e1 : passR base needs targets own f inn out = writeR targets own out (f (rText base needs own inn)) := by simp [passR, h0]
    rw [e1]
    have H0 := Lib.hid h0
    clear h0 e1
    go_enter Tryd.func30, Tryd.ntmps30
    go_wp2_with fail
    refine (read_any g base needs targets own inn w HO.out hsm.ro hsm.rb (by have := hsm.lo; omega) (by have := hsm.lb; omega) (by have := hsm.ln; omega)).mono ?_
    rintro e w1 ⟨rfl, hb1⟩
    rw [H0.out, errV_zero]
    generalize rText base needs own inn = tx at *
    go_wp2_with fail
    refine (HF.out tx w1 hts hb1).mono ?_
    rintro e w2 ⟨rfl, hb2⟩
    have hb12 : Below w.heap.size w w2 := hb1.trans (hb2.mono hb1.size)
    go_wp2_with fail
    refine (write_any g base needs targets own out (f tx) w2 (HO.out.below hb12) hsm.ro (by have := hsm.lo; omega) (by have := hsm.lt; omega)).mono ?_
    rintro e w3 ⟨rfl, hov, hg⟩
    have HV := Lib.hid hov
    clear hov
    go_wp2
    go_ret
    exact ⟨rfl, HV.out, grown_trans (grown_below hb12 _) hg⟩
  · have e1 : passR base needs targets own f inn out = (rErr base needs own inn, own) := by simp [passR, h0]
    rw [e1]
    have H0 := Lib.hid (errV_ne h0)
    clear h0 e1
    go_enter Tryd.func30, Tryd.ntmps30
    go_wp2_with fail
    refine (read_any g base needs targets own inn w HO.out hsm.ro hsm.rb (by have := hsm.lo; omega) (by have := hsm.lb; omega) (by have := hsm.ln; omega)).mono ?_
    rintro e w1 ⟨rfl, hb1⟩
    rw [H0.out]
    go_wp2
    go_ret
    exact ⟨by rw [H0.out]; rfl, HO.out.below hb1, grown_below hb1 _⟩

set_option maxHeartbeats 1000000 in
set_option maxRecDepth 100000 in
theorem need_any (g : Nat) (base : List F) (needs targets : List ByteArray) (own : List F) (inn : ByteArray) (w : World) (h : OvA w g base needs targets own) (hsm : Small base needs targets own) :
    Calls Tryd.prog 36 #[.pointer (some ⟨g, 0, none⟩), .string inn] w (RunPost g base needs targets (needR base needs own inn, own) w) := by
  have HO := Lib.hid h
  clear h
  by_cases h0 : rErr base needs own inn = 0
  · by_cases hz : (rText base needs own inn).size = 0
    · have e1 : needR base needs own inn = 7 := by simp [needR, h0, hz]
      rw [e1]
      have e2 : rText base needs own inn = ⟨#[]⟩ := by
        generalize rText base needs own inn = t at hz
        obtain ⟨d⟩ := t
        have hd : d.size = 0 := hz
        rw [Array.size_eq_zero_iff.1 hd]
      have H0 := Lib.hid h0
      have H2 := Lib.hid e2
      clear h0 e1 e2 hz
      go_enter Tryd.func36, Tryd.ntmps36
      go_wp2_with fail
      refine (read_any g base needs targets own inn w HO.out hsm.ro hsm.rb (by have := hsm.lo; omega) (by have := hsm.lb; omega) (by have := hsm.ln; omega)).mono ?_
      rintro e w1 ⟨rfl, hb1⟩
      rw [H0.out, errV_zero, H2.out]
      go_wp2
      go_ret
      exact ⟨rfl, HO.out.below hb1, grown_below hb1 _⟩
    · have e1 : needR base needs own inn = 0 := by simp [needR, h0, hz]
      rw [e1]
      have H0 := Lib.hid h0
      have hne : (rText base needs own inn).toList.isEmpty = false := by
        generalize rText base needs own inn = t at hz
        cases hl : t.toList with
        | nil =>
          exfalso
          apply hz
          rw [ByteArray.toList_eq] at hl
          have : t.data.toList.length = 0 := by rw [hl]; rfl
          simpa using this
        | cons a l => rfl
      clear h0 e1 hz
      generalize htx : rText base needs own inn = tx at *
      have HT := Lib.hid htx
      clear htx
      have hne1 : tx.toList ≠ [] := by intro e; rw [e] at hne; cases hne
      have hne2 : (tx.toList == []) = false := by rw [beq_eq_false_iff_ne]; exact hne1
      go_enter Tryd.func36, Tryd.ntmps36
      go_wp2_with fail
      refine (read_any g base needs targets own inn w HO.out hsm.ro hsm.rb (by have := hsm.lo; omega) (by have := hsm.lb; omega) (by have := hsm.ln; omega)).mono ?_
      rintro e w1 ⟨rfl, hb1⟩
      rw [H0.out, errV_zero, HT.out]
      go_wp2
      go_ret
      exact ⟨rfl, HO.out.below hb1, grown_below hb1 _⟩
  · have e1 : needR base needs own inn = rErr base needs own inn := by simp [needR, h0]
    rw [e1]
    have H0 := Lib.hid (errV_ne h0)
    clear h0 e1
    go_enter Tryd.func36, Tryd.ntmps36
    go_wp2_with fail
    refine (read_any g base needs targets own inn w HO.out hsm.ro hsm.rb (by have := hsm.lo; omega) (by have := hsm.lb; omega) (by have := hsm.ln; omega)).mono ?_
    rintro e w1 ⟨rfl, hb1⟩
    rw [H0.out]
    go_wp2
    go_ret
    exact ⟨by rw [H0.out]; rfl, HO.out.below hb1, grown_below hb1 _⟩
end Go.Proofs.YtmadegpbinnnfaaDoor
