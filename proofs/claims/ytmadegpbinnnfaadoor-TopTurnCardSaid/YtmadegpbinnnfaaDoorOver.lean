/-
  WORDS AND WALKS for overlays: the project's and the document's: New, Read, Write, Own: what each gives and what becomes of the memory.
-/
import Derived.Test.YtmadegpbinnnfaaDoorClone
import Derived.Test.YtmadegpbinnnfaaDoorRefPut
namespace Go.Proofs.YtmadegpbinnnfaaDoor
open Go.RowKit

/-- No cell of block g is a text. -/
def NoStr (w : World) (g : Nat) : Prop := ∀ o s, w.cell? ⟨g, o, none⟩ ≠ some (.string s)
theorem fcells_str {l : List F} {j : Nat} {u : Value} (h : (fcells l)[j]? = some u) : ∃ s, u = .string s := by
  have hm := List.mem_of_getElem? h
  simp only [fcells, List.mem_flatMap, List.mem_cons, List.mem_nil_iff, or_false] at hm
  obtain ⟨f, _, rfl | rfl⟩ := hm <;> exact ⟨_, rfl⟩
theorem RdF.grown {w w' : World} {B : Nat} {A : Option Addr} {n c : Nat} {l : List F} {g : Nat} (h : RdF w B A n c l) (hg : w.grownBy w' (some g)) (hB : B ≤ w.heap.size) (hs : NoStr w g) : RdF w' B A n c l :=
  ⟨h.1, h.2.1, h.2.2.1, fun hn => by
    obtain ⟨b, off, e, hb, hc⟩ := h.2.2.2 hn
    refine ⟨b, off, e, hb, fun j u hu => ?_⟩
    have hcj := hc j u hu
    obtain ⟨s, rfl⟩ := fcells_str hu
    have hne : b ≠ g := by rintro rfl; exact hs _ _ hcj
    exact (World.cell?_of_block (a := ⟨b, off + j, none⟩) (hg.block b (by omega) (by simpa using hne))).trans hcj⟩
theorem RdS.grown {w w' : World} {B : Nat} {A : Option Addr} {n c : Nat} {l : List ByteArray} {g : Nat} (h : RdS w B A n c l) (hg : w.grownBy w' (some g)) (hB : B ≤ w.heap.size) (hs : NoStr w g) : RdS w' B A n c l :=
  ⟨h.1, h.2.1, h.2.2.1, fun hn => by
    obtain ⟨b, off, e, hb, hc⟩ := h.2.2.2 hn
    refine ⟨b, off, e, hb, fun j u hu => ?_⟩
    have hcj := hc j u hu
    have hne : b ≠ g := by rintro rfl; exact hs _ _ hcj
    exact (World.cell?_of_block (a := ⟨b, off + j, none⟩) (hg.block b (by omega) (by simpa using hne))).trans hcj⟩

/-- Block g is four slices. -/
def Four (w : World) (g : Nat) (ty : TypeId) (v0 v1 v2 v3 : Value) : Prop := w.heap[g]? = some (.cells #[v0, v1, v2, v3] ty (0, 0))
section
variable {w w' : World} {g : Nat} {ty : TypeId} {v0 v1 v2 v3 : Value}
theorem Four.lt (h : Four w g ty v0 v1 v2 v3) : g < w.heap.size := (Array.getElem?_eq_some_iff.1 h).1
theorem Four.cell (h : Four w g ty v0 v1 v2 v3) (i : Nat) : w.cell? ⟨g, i, none⟩ = #[v0, v1, v2, v3][i]? := cell_of_row w g i _ ty (0, 0) h
theorem Four.frozen (h : Four w g ty v0 v1 v2 v3) (i : Nat) : w.frozen? ⟨g, i, none⟩ = false := by
  unfold Four at h
  simp [World.frozen?, h]
theorem Four.below {B : Nat} (h : Four w g ty v0 v1 v2 v3) (hb : Below B w w') (hg : g < B) : Four w' g ty v0 v1 v2 v3 := (hb.block g hg).trans h
theorem Four.grown {g' : Nat} (h : Four w g ty v0 v1 v2 v3) (hb : w.grownBy w' (some g')) (hg : g ≠ g') : Four w' g ty v0 v1 v2 v3 := (hb.block g h.lt (by simpa using hg)).trans h
theorem Four.set (h : Four w g ty v0 v1 v2 v3) (i : Nat) (u : Value) : (w.setCell ⟨g, i, none⟩ u).heap[g]? = some (.cells (#[v0, v1, v2, v3].setIfInBounds i u) ty (0, 0)) := by
  unfold Four at h
  simp [World.setCell, Array.getElem?_modify, h]
end
theorem grown_setCell (w : World) (g i : Nat) (u : Value) : w.grownBy (w.setCell ⟨g, i, none⟩ u) (some g) :=
  ⟨rfl, rfl, rfl, by simp [World.setCell], fun k _ hne => Below.heap_setCell w _ u k (by intro e; exact hne (by rw [e]))⟩
theorem grown_below {w w' : World} (h : Below w.heap.size w w') (row : Option Nat) : w.grownBy w' row := ⟨h.os, h.tape, h.output, h.size, fun i hi _ => h.block i hi⟩
theorem grown_trans {a b c : World} {row : Option Nat} (h : a.grownBy b row) (k : b.grownBy c row) : a.grownBy c row :=
  ⟨k.os.trans h.os, k.tape.trans h.tape, k.output.trans h.output, Nat.le_trans h.size k.size, fun i hi hne => (k.block i (Nat.lt_of_lt_of_le hi h.size) hne).trans (h.block i hi hne)⟩

theorem noStr_slices {w : World} {g : Nat} {ty : TypeId} {A0 A1 A2 A3 : Option Addr} {n0 n1 n2 n3 c0 c1 c2 c3 : Nat} (h : Four w g ty (.slice A0 n0 c0) (.slice A1 n1 c1) (.slice A2 n2 c2) (.slice A3 n3 c3)) : NoStr w g := by
  intro o s e
  rw [h.cell o] at e
  match o with
  | 0 => simp at e
  | 1 => simp at e
  | 2 => simp at e
  | 3 => simp at e
  | o + 4 => simp at e

/-- The project's overlay at block g. -/
def OvA (w : World) (g : Nat) (base : List F) (needs targets : List ByteArray) (own : List F) : Prop :=
  ∃ (Ab An At Ao : Option Addr) (nb cb nn cn nt ct no co : Nat), Four w g 64 (.slice Ab nb cb) (.slice An nn cn) (.slice At nt ct) (.slice Ao no co) ∧
    RdF w w.heap.size Ab nb cb base ∧ RdS w w.heap.size An nn cn needs ∧ RdS w w.heap.size At nt ct targets ∧ RdF w w.heap.size Ao no co own
/-- The document's overlay at block g. -/
def OvB (w : World) (g : Nat) (base : List F) (needs targets : List ByteArray) (own : List F) : Prop :=
  ∃ (Ab An At Ao : Option Addr) (nb cb nn cn nt ct no co : Nat), Four w g 46 (.slice Ab nb cb) (.slice Ao no co) (.slice An nn cn) (.slice At nt ct) ∧
    RdF w w.heap.size Ab nb cb base ∧ RdS w w.heap.size An nn cn needs ∧ RdS w w.heap.size At nt ct targets ∧ RdF w w.heap.size Ao no co own
section
variable {w w' : World} {g g' : Nat} {base own : List F} {needs targets : List ByteArray}
theorem OvA.lt (h : OvA w g base needs targets own) : g < w.heap.size := by obtain ⟨_, _, _, _, _, _, _, _, _, _, _, _, h, _⟩ := h; exact h.lt
theorem OvB.lt (h : OvB w g base needs targets own) : g < w.heap.size := by obtain ⟨_, _, _, _, _, _, _, _, _, _, _, _, h, _⟩ := h; exact h.lt
theorem OvA.noStr (h : OvA w g base needs targets own) : NoStr w g := by obtain ⟨_, _, _, _, _, _, _, _, _, _, _, _, h, _⟩ := h; exact noStr_slices h
theorem OvB.noStr (h : OvB w g base needs targets own) : NoStr w g := by obtain ⟨_, _, _, _, _, _, _, _, _, _, _, _, h, _⟩ := h; exact noStr_slices h
theorem OvA.below (h : OvA w g base needs targets own) (hb : Below w.heap.size w w') : OvA w' g base needs targets own := by
  have hlt := h.lt
  obtain ⟨Ab, An, At, Ao, nb, cb, nn, cn, nt, ct, no, co, h0, h1, h2, h3, h4⟩ := h
  exact ⟨Ab, An, At, Ao, nb, cb, nn, cn, nt, ct, no, co, h0.below hb hlt, h1.belowS hb, h2.belowS hb, h3.belowS hb, h4.belowS hb⟩
theorem OvB.below (h : OvB w g base needs targets own) (hb : Below w.heap.size w w') : OvB w' g base needs targets own := by
  have hlt := h.lt
  obtain ⟨Ab, An, At, Ao, nb, cb, nn, cn, nt, ct, no, co, h0, h1, h2, h3, h4⟩ := h
  exact ⟨Ab, An, At, Ao, nb, cb, nn, cn, nt, ct, no, co, h0.below hb hlt, h1.belowS hb, h2.belowS hb, h3.belowS hb, h4.belowS hb⟩
theorem OvA.grown (h : OvA w g base needs targets own) (hg : w.grownBy w' (some g')) (hne : g ≠ g') (hs : NoStr w g') : OvA w' g base needs targets own := by
  obtain ⟨Ab, An, At, Ao, nb, cb, nn, cn, nt, ct, no, co, h0, h1, h2, h3, h4⟩ := h
  exact ⟨Ab, An, At, Ao, nb, cb, nn, cn, nt, ct, no, co, h0.grown hg hne, (h1.grown hg (Nat.le_refl _) hs).more hg.size, (h2.grown hg (Nat.le_refl _) hs).more hg.size, (h3.grown hg (Nat.le_refl _) hs).more hg.size, (h4.grown hg (Nat.le_refl _) hs).more hg.size⟩
theorem OvB.grown (h : OvB w g base needs targets own) (hg : w.grownBy w' (some g')) (hne : g ≠ g') (hs : NoStr w g') : OvB w' g base needs targets own := by
  obtain ⟨Ab, An, At, Ao, nb, cb, nn, cn, nt, ct, no, co, h0, h1, h2, h3, h4⟩ := h
  exact ⟨Ab, An, At, Ao, nb, cb, nn, cn, nt, ct, no, co, h0.grown hg hne, (h1.grown hg (Nat.le_refl _) hs).more hg.size, (h2.grown hg (Nat.le_refl _) hs).more hg.size, (h3.grown hg (Nat.le_refl _) hs).more hg.size, (h4.grown hg (Nat.le_refl _) hs).more hg.size⟩
theorem OvA.drewN (h : OvA w g base needs targets own) (k : Nat) : OvA (w.drewN k) g base needs targets own := h
theorem OvB.drewN (h : OvB w g base needs targets own) (k : Nat) : OvB (w.drewN k) g base needs targets own := h
end

/-- What writing comes to, by number. -/
def wErr (targets : List ByteArray) (name text : ByteArray) : Int := if inT targets name = true then (if 20 < text.size then 2 else 0) else 6
def wOwn (targets : List ByteArray) (own : List F) (name text : ByteArray) : List F := if inT targets name = true then (if 20 < text.size then own else putF own (name, text)) else own
theorem wErr_nn (targets : List ByteArray) (name text : ByteArray) : 0 ≤ wErr targets name text := by unfold wErr; split <;> (try split) <;> omega

def WritePost (g : Nat) (base : List F) (needs targets : List ByteArray) (own : List F) (name text : ByteArray) (w : World) (e : Ending) (w' : World) : Prop :=
  e = .returned (errV (wErr targets name text)) ∧ OvA w' g base needs targets (wOwn targets own name text) ∧ w.grownBy w' (some g)

set_option maxHeartbeats 1000000 in
set_option maxRecDepth 100000 in
theorem write_any (g : Nat) (base : List F) (needs targets : List ByteArray) (own : List F) (name text : ByteArray) (w : World) (h : OvA w g base needs targets own) (hs : Rises own) (ho : own.length ≤ 900000) (ht : targets.length ≤ 1000000) :
    Calls Tryd.prog 28 #[.pointer (some ⟨g, 0, none⟩), .string name, .string text] w (WritePost g base needs targets own name text w) := by
  have hov := h
  obtain ⟨Ab, An, At, Ao, nb, cb, nn, cn, nt, ct, no, co, h0, h1, h2, h3, h4⟩ := h
  have x2 : w.cell? ⟨g, 2, none⟩ = some (.slice At nt ct) := h0.cell 2
  have x3 : w.cell? ⟨g, 3, none⟩ = some (.slice Ao no co) := h0.cell 3
  have hgl := h0.lt
  have HOV := Lib.hid hov
  have H0 := Lib.hid h0
  have H1 := Lib.hid h1
  have H2 := Lib.hid h2
  have H3 := Lib.hid h3
  have H4 := Lib.hid h4
  have hnt : nt ≤ 1000000 := by rw [← h3.1]; exact ht
  have hno : no ≤ 900000 := by rw [← h4.1]; exact ho
  clear hov h0 h1 h2 h3 h4 ht ho
  cases hin : inT targets name with
  | false =>
    have e1 : wErr targets name text = 6 := by simp [wErr, hin]
    have e2 : wOwn targets own name text = own := by simp [wOwn, hin]
    have HE := Lib.hid e1
    have HW := Lib.hid e2
    have HIN := Lib.hid hin
    clear e1 e2 hin
    go_enter Tryd.func28, Tryd.ntmps28
    go_wp2_with fail
    refine (contains_any At nt ct targets name w H3.out hnt).mono ?_
    rintro e w1 ⟨rfl, rfl⟩
    rw [HIN.out]
    go_wp2
    go_ret
    exact ⟨by rw [HE.out]; rfl, by rw [HW.out]; exact HOV.out, World.grownBy.refl _ _⟩
  | true =>
    have HIN := Lib.hid hin
    by_cases h20 : 20 < text.size
    · have e1 : wErr targets name text = 2 := by simp [wErr, hin, h20]
      have e2 : wOwn targets own name text = own := by simp [wOwn, hin, h20]
      have t1 : (20 : Int) < (text.size : Int) := by omega
      have HE := Lib.hid e1
      have HW := Lib.hid e2
      clear e1 e2 hin
      go_enter Tryd.func28, Tryd.ntmps28
      go_wp2_with fail
      refine (contains_any At nt ct targets name w H3.out hnt).mono ?_
      rintro e w1 ⟨rfl, rfl⟩
      rw [HIN.out]
      go_wp2
      go_ret
      exact ⟨by rw [HE.out]; rfl, by rw [HW.out]; exact HOV.out, World.grownBy.refl _ _⟩
    · have e1 : wErr targets name text = 0 := by simp [wErr, hin, h20]
      have e2 : wOwn targets own name text = putF own (name, text) := by simp [wOwn, hin, h20]
      have t1 : decide ((20 : Int) < (text.size : Int)) = false := decide_eq_false (by omega)
      have HE := Lib.hid e1
      have HW := Lib.hid e2
      clear e1 e2 hin
      go_enter Tryd.func28, Tryd.ntmps28
      go_wp2_with fail
      refine (contains_any At nt ct targets name w H3.out hnt).mono ?_
      rintro e w1 ⟨rfl, rfl⟩
      rw [HIN.out]
      go_wp2_with fail
      refine (put_any Ao no co own name text w H4.out hs hno).mono ?_
      rintro e w1 ⟨v1, rfl, hown1, hb1⟩
      obtain ⟨A1, k1, rfl, hr1⟩ := RdF.of_own hown1
      have f1 := H0.out.below hb1 hgl
      have y3 : w1.cell? ⟨g, 3, none⟩ = some (.slice Ao no co) := f1.cell 3
      have z3 : w1.frozen? ⟨g, 3, none⟩ = false := f1.frozen 3
      have F1 := Lib.hid f1
      have R1 := Lib.hid hr1
      clear f1 hr1 hown1 x2 x3
      go_wp2
      go_ret
      refine ⟨by rw [HE.out]; rfl, ?_, grown_trans (grown_below hb1 _) (grown_setCell _ _ _ _)⟩
      rw [HW.out]
      have hg := grown_setCell w1 g 3 (.slice A1 (putF own (name, text)).length k1)
      have hns := noStr_slices F1.out
      exact ⟨Ab, An, At, A1, nb, cb, nn, cn, nt, ct, _, k1, F1.out.set 3 _, ((H1.out.belowS hb1).grown hg (Nat.le_refl _) hns).more hg.size, ((H2.out.belowS hb1).grown hg (Nat.le_refl _) hns).more hg.size, ((H3.out.belowS hb1).grown hg (Nat.le_refl _) hns).more hg.size, (R1.out.grown hg (Nat.le_refl _) hns).more hg.size⟩
def RefWritePost (g : Nat) (base : List F) (needs targets : List ByteArray) (own : List F) (name text : ByteArray) (w : World) (e : Ending) (w' : World) : Prop :=
  e = .returned (.int .i64 (wErr targets name text)) ∧ OvB w' g base needs targets (wOwn targets own name text) ∧ w.grownBy w' (some g)

set_option maxHeartbeats 1000000 in
set_option maxRecDepth 100000 in
theorem refWrite_any (g : Nat) (base : List F) (needs targets : List ByteArray) (own : List F) (name text : ByteArray) (w : World) (h : OvB w g base needs targets own) (hs : Rises own) (ho : own.length ≤ 900000) (ht : targets.length ≤ 1000000) :
    Calls Tryd.prog 38 #[.pointer (some ⟨g, 0, none⟩), .string name, .string text] w (RefWritePost g base needs targets own name text w) := by
  have hov := h
  obtain ⟨Ab, An, At, Ao, nb, cb, nn, cn, nt, ct, no, co, h0, h1, h2, h3, h4⟩ := h
  have x2 : w.cell? ⟨g, 3, none⟩ = some (.slice At nt ct) := h0.cell 3
  have x3 : w.cell? ⟨g, 1, none⟩ = some (.slice Ao no co) := h0.cell 1
  have hgl := h0.lt
  have HOV := Lib.hid hov
  have H0 := Lib.hid h0
  have H1 := Lib.hid h1
  have H2 := Lib.hid h2
  have H3 := Lib.hid h3
  have H4 := Lib.hid h4
  have hnt : nt ≤ 1000000 := by rw [← h3.1]; exact ht
  have hno : no ≤ 900000 := by rw [← h4.1]; exact ho
  clear hov h0 h1 h2 h3 h4 ht ho
  cases hin : inT targets name with
  | false =>
    have e1 : wErr targets name text = 6 := by simp [wErr, hin]
    have e2 : wOwn targets own name text = own := by simp [wOwn, hin]
    have HE := Lib.hid e1
    have HW := Lib.hid e2
    have HIN := Lib.hid hin
    clear e1 e2 hin
    go_enter Tryd.func38, Tryd.ntmps38
    go_wp2_with fail
    refine (in_any At nt ct targets name w H3.out hnt).mono ?_
    rintro e w1 ⟨rfl, rfl⟩
    rw [HIN.out]
    go_wp2
    go_ret
    exact ⟨by rw [HE.out]; rfl, by rw [HW.out]; exact HOV.out, World.grownBy.refl _ _⟩
  | true =>
    have HIN := Lib.hid hin
    by_cases h20 : 20 < text.size
    · have e1 : wErr targets name text = 2 := by simp [wErr, hin, h20]
      have e2 : wOwn targets own name text = own := by simp [wOwn, hin, h20]
      have t1 : (20 : Int) < (text.size : Int) := by omega
      have HE := Lib.hid e1
      have HW := Lib.hid e2
      clear e1 e2 hin
      go_enter Tryd.func38, Tryd.ntmps38
      go_wp2_with fail
      refine (in_any At nt ct targets name w H3.out hnt).mono ?_
      rintro e w1 ⟨rfl, rfl⟩
      rw [HIN.out]
      go_wp2
      go_ret
      exact ⟨by rw [HE.out]; rfl, by rw [HW.out]; exact HOV.out, World.grownBy.refl _ _⟩
    · have e1 : wErr targets name text = 0 := by simp [wErr, hin, h20]
      have e2 : wOwn targets own name text = putF own (name, text) := by simp [wOwn, hin, h20]
      have t1 : decide ((20 : Int) < (text.size : Int)) = false := decide_eq_false (by omega)
      have HE := Lib.hid e1
      have HW := Lib.hid e2
      clear e1 e2 hin
      go_enter Tryd.func38, Tryd.ntmps38
      go_wp2_with fail
      refine (in_any At nt ct targets name w H3.out hnt).mono ?_
      rintro e w1 ⟨rfl, rfl⟩
      rw [HIN.out]
      go_wp2_with fail
      refine (refPut_any Ao no co own name text w H4.out hs hno).mono ?_
      rintro e w1 ⟨v1, rfl, hown1, hb1⟩
      obtain ⟨A1, k1, rfl, hr1⟩ := RdF.of_own hown1
      have f1 := H0.out.below hb1 hgl
      have y3 : w1.cell? ⟨g, 1, none⟩ = some (.slice Ao no co) := f1.cell 1
      have z3 : w1.frozen? ⟨g, 1, none⟩ = false := f1.frozen 1
      have F1 := Lib.hid f1
      have R1 := Lib.hid hr1
      clear f1 hr1 hown1 x2 x3
      go_wp2
      go_ret
      refine ⟨by rw [HE.out]; rfl, ?_, grown_trans (grown_below hb1 _) (grown_setCell _ _ _ _)⟩
      rw [HW.out]
      have hg := grown_setCell w1 g 1 (.slice A1 (putF own (name, text)).length k1)
      have hns := noStr_slices F1.out
      exact ⟨Ab, An, At, A1, nb, cb, nn, cn, nt, ct, _, k1, F1.out.set 1 _, ((H1.out.belowS hb1).grown hg (Nat.le_refl _) hns).more hg.size, ((H2.out.belowS hb1).grown hg (Nat.le_refl _) hns).more hg.size, ((H3.out.belowS hb1).grown hg (Nat.le_refl _) hns).more hg.size, (R1.out.grown hg (Nat.le_refl _) hns).more hg.size⟩

/-- What reading comes to: the text, and the number of what is wrong. -/
def rText (base : List F) (needs : List ByteArray) (own : List F) (name : ByteArray) : ByteArray := if has own name = true then textF own name else if inT needs name = true then textF base name else ByteArray.empty
def rErr (base : List F) (needs : List ByteArray) (own : List F) (name : ByteArray) : Int := if has own name = true then 0 else if inT needs name = true then (if has base name = true then 0 else 5) else 6
theorem rErr_nn (base : List F) (needs : List ByteArray) (own : List F) (name : ByteArray) : 0 ≤ rErr base needs own name := by unfold rErr; repeat (first | split | omega)

set_option maxHeartbeats 1000000 in
set_option maxRecDepth 100000 in
theorem read_any (g : Nat) (base : List F) (needs targets : List ByteArray) (own : List F) (name : ByteArray) (w : World) (h : OvA w g base needs targets own) (hs : Rises own) (hsb : Rises base) (ho : own.length ≤ 900000) (hb : base.length ≤ 900000) (hne : needs.length ≤ 1000000) :
    Calls Tryd.prog 47 #[.pointer (some ⟨g, 0, none⟩), .string name] w fun e w' => e = .returned (.tuple #[.string (rText base needs own name), errV (rErr base needs own name)]) ∧ Below w.heap.size w w' := by
  obtain ⟨Ab, An, At, Ao, nb, cb, nn, cn, nt, ct, no, co, h0, h1, h2, h3, h4⟩ := h
  have hgl := h0.lt
  have x3 : w.cell? ⟨g, 3, none⟩ = some (.slice Ao no co) := h0.cell 3
  have H0 := Lib.hid h0
  have H1 := Lib.hid h1
  have H2 := Lib.hid h2
  have H4 := Lib.hid h4
  have hno : no < 1099511627776 := by rw [← h4.1]; omega
  have hnb : nb < 1099511627776 := by rw [← h1.1]; omega
  have hnn : nn ≤ 1000000 := by rw [← h2.1]; exact hne
  clear h0 h1 h2 h3 h4 ho hb hne
  cases ha : has own name with
  | true =>
    have e1 : rText base needs own name = textF own name := by simp [rText, ha]
    have e2 : errV (rErr base needs own name) = .nilIface := by simp [rErr, ha, errV]
    rw [e1, e2]
    have HA := Lib.hid ha
    clear ha e1 e2
    go_enter Tryd.func47, Tryd.ntmps47
    go_wp2_with fail
    refine (get_any Ao no co own name w H4.out hs hno).mono ?_
    rintro e w1 ⟨rfl, hb1⟩
    rw [HA.out]
    go_wp2
    go_ret2
    exact ⟨rfl, hb1⟩
  | false =>
    have HA := Lib.hid ha
    cases hi : inT needs name with
    | false =>
      have e1 : rText base needs own name = ByteArray.empty := by simp [rText, ha, hi]
      have e2 : errV (rErr base needs own name) = .iface 23 (.int .i64 6) := by simp [rErr, ha, hi, errV]
      rw [e1, e2]
      have HI := Lib.hid hi
      clear ha hi e1 e2
      go_enter Tryd.func47, Tryd.ntmps47
      go_wp2_with fail
      refine (get_any Ao no co own name w H4.out hs hno).mono ?_
      rintro e w1 ⟨rfl, hb1⟩
      rw [HA.out]
      have y1 : w1.cell? ⟨g, 1, none⟩ = some (.slice An nn cn) := (H0.out.below hb1 hgl).cell 1
      clear x3
      go_wp2_with fail
      refine (contains_any An nn cn needs name w1 (H2.out.belowS hb1) hnn).mono ?_
      rintro e w2 ⟨rfl, rfl⟩
      rw [HI.out]
      go_wp2
      go_ret2
      exact ⟨rfl, hb1⟩
    | true =>
      have HI := Lib.hid hi
      cases hz : has base name with
      | false =>
        have e1 : rText base needs own name = textF base name := by simp [rText, ha, hi]
        have e0 := textF_none hz
        have e2 : errV (rErr base needs own name) = .iface 23 (.int .i64 5) := by simp [rErr, ha, hi, hz, errV]
        rw [e1, e2, e0]
        have HZ := Lib.hid hz
        clear ha hi hz e0 e1 e2
        go_enter Tryd.func47, Tryd.ntmps47
        go_wp2_with fail
        refine (get_any Ao no co own name w H4.out hs hno).mono ?_
        rintro e w1 ⟨rfl, hb1⟩
        rw [HA.out]
        have y1 : w1.cell? ⟨g, 1, none⟩ = some (.slice An nn cn) := (H0.out.below hb1 hgl).cell 1
        have y0 : w1.cell? ⟨g, 0, none⟩ = some (.slice Ab nb cb) := (H0.out.below hb1 hgl).cell 0
        clear x3
        go_wp2_with fail
        refine (contains_any An nn cn needs name w1 (H2.out.belowS hb1) hnn).mono ?_
        rintro e w2 ⟨rfl, rfl⟩
        rw [HI.out]
        go_wp2_with fail
        refine (get_any Ab nb cb base name w1 (H1.out.belowS hb1) hsb hnb).mono ?_
        rintro e w2 ⟨rfl, hb2⟩
        rw [HZ.out]
        go_wp2
        go_ret2
        exact ⟨rfl, hb1.trans (hb2.mono hb1.size)⟩
      | true =>
        have e1 : rText base needs own name = textF base name := by simp [rText, ha, hi]
        have e2 : errV (rErr base needs own name) = .nilIface := by simp [rErr, ha, hi, hz, errV]
        rw [e1, e2]
        have HZ := Lib.hid hz
        clear ha hi hz e1 e2
        go_enter Tryd.func47, Tryd.ntmps47
        go_wp2_with fail
        refine (get_any Ao no co own name w H4.out hs hno).mono ?_
        rintro e w1 ⟨rfl, hb1⟩
        rw [HA.out]
        have y1 : w1.cell? ⟨g, 1, none⟩ = some (.slice An nn cn) := (H0.out.below hb1 hgl).cell 1
        have y0 : w1.cell? ⟨g, 0, none⟩ = some (.slice Ab nb cb) := (H0.out.below hb1 hgl).cell 0
        clear x3
        go_wp2_with fail
        refine (contains_any An nn cn needs name w1 (H2.out.belowS hb1) hnn).mono ?_
        rintro e w2 ⟨rfl, rfl⟩
        rw [HI.out]
        go_wp2_with fail
        refine (get_any Ab nb cb base name w1 (H1.out.belowS hb1) hsb hnb).mono ?_
        rintro e w2 ⟨rfl, hb2⟩
        rw [HZ.out]
        go_wp2
        go_ret2
        exact ⟨rfl, hb1.trans (hb2.mono hb1.size)⟩

set_option maxHeartbeats 1000000 in
set_option maxRecDepth 100000 in
theorem refRead_any (g : Nat) (base : List F) (needs targets : List ByteArray) (own : List F) (name : ByteArray) (w : World) (h : OvB w g base needs targets own) (ho : own.length ≤ 900000) (hb : base.length ≤ 900000) (hne : needs.length ≤ 1000000) :
    Calls Tryd.prog 39 #[.pointer (some ⟨g, 0, none⟩), .string name] w fun e w' => e = .returned (.tuple #[.string (rText base needs own name), .int .i64 (rErr base needs own name)]) ∧ w = w' := by
  obtain ⟨Ab, An, At, Ao, nb, cb, nn, cn, nt, ct, no, co, h0, h1, h2, h3, h4⟩ := h
  have x1 : w.cell? ⟨g, 1, none⟩ = some (.slice Ao no co) := h0.cell 1
  have x2 : w.cell? ⟨g, 2, none⟩ = some (.slice An nn cn) := h0.cell 2
  have x0 : w.cell? ⟨g, 0, none⟩ = some (.slice Ab nb cb) := h0.cell 0
  have H1 := Lib.hid h1
  have H2 := Lib.hid h2
  have H4 := Lib.hid h4
  have hno : no ≤ 1000000 := by rw [← h4.1]; omega
  have hnb : nb ≤ 1000000 := by rw [← h1.1]; omega
  have hnn : nn ≤ 1000000 := by rw [← h2.1]; exact hne
  clear h0 h1 h2 h3 h4 ho hb hne
  cases ha : has own name with
  | true =>
    have e1 : rText base needs own name = textF own name := by simp [rText, ha]
    have e2 : rErr base needs own name = 0 := by simp [rErr, ha]
    rw [e1, e2]
    have HA := Lib.hid ha
    clear ha e1 e2
    go_enter Tryd.func39, Tryd.ntmps39
    go_wp2_with fail
    refine (refGet_any Ao no co own name w H4.out hno).mono ?_
    rintro e w1 ⟨rfl, rfl⟩
    rw [HA.out]
    go_wp2
    go_ret2
    exact ⟨rfl, rfl⟩
  | false =>
    have HA := Lib.hid ha
    cases hi : inT needs name with
    | false =>
      have e1 : rText base needs own name = ByteArray.empty := by simp [rText, ha, hi]
      have e2 : rErr base needs own name = 6 := by simp [rErr, ha, hi]
      rw [e1, e2]
      have HI := Lib.hid hi
      clear ha hi e1 e2
      go_enter Tryd.func39, Tryd.ntmps39
      go_wp2_with fail
      refine (refGet_any Ao no co own name w H4.out hno).mono ?_
      rintro e w1 ⟨rfl, rfl⟩
      rw [HA.out]
      go_wp2_with fail
      refine (in_any An nn cn needs name w H2.out hnn).mono ?_
      rintro e w2 ⟨rfl, rfl⟩
      rw [HI.out]
      go_wp2
      go_ret2
      exact ⟨rfl, rfl⟩
    | true =>
      have HI := Lib.hid hi
      cases hz : has base name with
      | false =>
        have e1 : rText base needs own name = textF base name := by simp [rText, ha, hi]
        have e0 := textF_none hz
        have e2 : rErr base needs own name = 5 := by simp [rErr, ha, hi, hz]
        rw [e1, e2, e0]
        have HZ := Lib.hid hz
        clear ha hi hz e0 e1 e2
        go_enter Tryd.func39, Tryd.ntmps39
        go_wp2_with fail
        refine (refGet_any Ao no co own name w H4.out hno).mono ?_
        rintro e w1 ⟨rfl, rfl⟩
        rw [HA.out]
        go_wp2_with fail
        refine (in_any An nn cn needs name w H2.out hnn).mono ?_
        rintro e w2 ⟨rfl, rfl⟩
        rw [HI.out]
        go_wp2_with fail
        refine (refGet_any Ab nb cb base name w H1.out hnb).mono ?_
        rintro e w2 ⟨rfl, rfl⟩
        rw [HZ.out]
        go_wp2
        go_ret2
        exact ⟨rfl, rfl⟩
      | true =>
        have e1 : rText base needs own name = textF base name := by simp [rText, ha, hi]
        have e2 : rErr base needs own name = 0 := by simp [rErr, ha, hi, hz]
        rw [e1, e2]
        have HZ := Lib.hid hz
        clear ha hi hz e1 e2
        go_enter Tryd.func39, Tryd.ntmps39
        go_wp2_with fail
        refine (refGet_any Ao no co own name w H4.out hno).mono ?_
        rintro e w1 ⟨rfl, rfl⟩
        rw [HA.out]
        go_wp2_with fail
        refine (in_any An nn cn needs name w H2.out hnn).mono ?_
        rintro e w2 ⟨rfl, rfl⟩
        rw [HI.out]
        go_wp2_with fail
        refine (refGet_any Ab nb cb base name w H1.out hnb).mono ?_
        rintro e w2 ⟨rfl, rfl⟩
        rw [HZ.out]
        go_wp2
        go_ret2
        exact ⟨rfl, rfl⟩

theorem own_any (g : Nat) (base : List F) (needs targets : List ByteArray) (own : List F) (w : World) (h : OvA w g base needs targets own) (ho : own.length ≤ 900000) :
    Calls Tryd.prog 19 #[.pointer (some ⟨g, 0, none⟩)] w fun e w' => ∃ v, e = .returned v ∧ w'.ownsRow w.heap.size 52 2 v own.length (fcells own) ∧ Below w.heap.size w w' := by
  obtain ⟨Ab, An, At, Ao, nb, cb, nn, cn, nt, ct, no, co, h0, h1, h2, h3, h4⟩ := h
  have x3 : w.cell? ⟨g, 3, none⟩ = some (.slice Ao no co) := h0.cell 3
  have hl := h4.1
  have hno : no ≤ 900000 := by omega
  have H4 := Lib.hid h4
  have HL := Lib.hid hl
  clear h0 h1 h2 h3 h4 hl ho
  go_enter Tryd.func19, Tryd.ntmps19
  go_wp2_with fail
  refine (cloneF_any Ao no co own w H4.out hno).mono ?_
  rintro e w1 ⟨v, rfl, hown, hb⟩
  have HO := Lib.hid hown
  clear hown
  go_wp2
  go_ret
  exact ⟨_, rfl, by rw [HL.out]; exact HO.out, hb⟩

def NewPost (base : List F) (needs targets : List ByteArray) (w : World) (e : Ending) (w' : World) : Prop :=
  ∃ g, e = .returned (.pointer (some ⟨g, 0, none⟩)) ∧ w.heap.size ≤ g ∧ OvA w' g base needs targets [] ∧ Below w.heap.size w w'

set_option maxHeartbeats 1000000 in
set_option maxRecDepth 100000 in
theorem new_any (A An At : Option Addr) (n c nn cn nt ct : Nat) (base : List F) (needs targets : List ByteArray) (w : World) (h : RdF w w.heap.size A n c base) (h1 : RdS w w.heap.size An nn cn needs) (h2 : RdS w w.heap.size At nt ct targets) (hn : n ≤ 900000) (hn1 : nn ≤ 900000) (hn2 : nt ≤ 900000) :
    Calls Tryd.prog 16 #[.slice A n c, .slice An nn cn, .slice At nt ct] w (NewPost base needs targets w) := by
  have H := Lib.hid h
  have H1 := Lib.hid h1
  have H2 := Lib.hid h2
  clear h h1 h2
  go_enter Tryd.func16, Tryd.ntmps16
  go_wp2_with fail
  refine (cloneF_any A n c base w H.out hn).mono ?_
  rintro e w1 ⟨v1, rfl, hown1, hb1⟩
  obtain ⟨A1, k1, rfl, hr1⟩ := RdF.of_own hown1
  have R1 := Lib.hid hr1
  have G1 := Lib.hid (H1.out.belowS hb1)
  have G2 := Lib.hid (H2.out.belowS hb1)
  clear hr1 hown1 H H1 H2
  go_wp2_with fail
  refine (cloneS_any An nn cn needs w1 G1.out hn1).mono ?_
  rintro e w2 ⟨v2, rfl, hown2, hb2⟩
  obtain ⟨A2, k2, rfl, hr2⟩ := RdS.of_own hown2
  have R2 := Lib.hid hr2
  have R1' := Lib.hid (R1.out.belowS hb2)
  have G2' := Lib.hid (G2.out.belowS hb2)
  clear hr2 hown2 R1 G1 G2
  go_wp2_with fail
  refine (cloneS_any At nt ct targets w2 G2'.out hn2).mono ?_
  rintro e w3 ⟨v3, rfl, hown3, hb3⟩
  obtain ⟨A3, k3, rfl, hr3⟩ := RdS.of_own hown3
  have R3 := Lib.hid hr3
  have R1'' := Lib.hid (R1'.out.belowS hb3)
  have R2' := Lib.hid (R2.out.belowS hb3)
  have hb : Below w.heap.size w w3 := (hb1.trans (hb2.mono hb1.size)).trans (hb3.mono (Nat.le_trans hb1.size hb2.size))
  clear hr3 hown3 R1' R2 G2' hb1 hb2 hb3
  go_wp2
  go_ret
  have hba := (Below.refl w3.heap.size w3).alloc (Nat.le_refl _) (.cells #[.slice A1 n k1, .slice A2 nn k2, .slice A3 nt k3, .slice none 0 0] 64)
  refine ⟨w3.heap.size, rfl, hb.size, ⟨A1, A2, A3, none, n, k1, nn, k2, nt, k3, 0, 0, heap_alloc_new w3 _, R1''.out.belowS hba, R2'.out.belowS hba, R3.out.belowS hba, RdF.nil _ _⟩, hb.alloc hb.size _⟩
end Go.Proofs.YtmadegpbinnnfaaDoor
