/-
  WORDS FOR MEMORY: a set of texts kept as a map of bools; a description as it is read. WALK: makefile.agrees.
-/
import Derived.Test.YtkkoflbeggdblaaDoorAddRule
import Derived.Maps.OwnSet
namespace Go.Proofs.YtkkoflbeggdblaaDoor
open Go.RowKit

theorem noteB_nil {s : ByteArray} (h : s.size = 0) : noteB s = true := by
  have : s.data.toList = [] := List.eq_nil_of_length_eq_zero (by simpa using h)
  unfold noteB
  rw [this]
theorem noteB_at {s : ByteArray} (h : 0 < s.size) : noteB s = decide (s[0] = 35) := by
  unfold noteB
  have e : s.data.toList = s[0] :: s.data.toList.drop 1 := by
    have := List.drop_eq_getElem_cons (l := s.data.toList) (i := 0) (by simpa using h)
    rw [List.drop_zero] at this
    exact this
  rw [e]
set_option maxHeartbeats 2000000 in
set_option maxRecDepth 100000 in
theorem addLine_any (B g : Nat) (m : Mk) (s : ByteArray) (w : World) (h : MkIn w B g m) (hB : B ≤ w.heap.size) (hG : GB g B) (hmx : MaxOk w) (hsn : Sane m 100000) (hs : s.size ≤ 600) :
    Calls Tryd.prog 48 #[.pointer (some ⟨g, 0, none⟩), .string s] w (AdPost B g (lineR m s) w) := by
  obtain ⟨r, hr⟩ : ∃ r, r = lineR m s := ⟨_, rfl⟩
  rw [← hr]
  unfold lineR at hr
  have HR := Lib.hid hr
  have H0 := Lib.hid h
  have HMX := Lib.hid hmx
  have HSN := Lib.hid hsn
  have HG := Lib.hid hG
  clear hr h hmx hsn hG
  have hdone : noteB s = true → r = (0, m) := fun hn => by have := HR.out; rw [if_pos hn] at this; exact this
  have HD := Lib.hid hdone
  clear hdone
  by_cases h0 : s.size = 0
  · have HN := Lib.hid (HD.out (noteB_nil h0))
    have t1 : (s.toList == []) = true := by
      have : s.data.toList = [] := List.eq_nil_of_length_eq_zero (by simpa using h0)
      rw [Lib.toList_data, this]
      rfl
    clear h0
    go_enter Tryd.func48, Tryd.ntmps48
    go_wp2
    go_ret
    exact ⟨by rw [HN.out]; rfl, by rw [HN.out]; exact H0.out, Fr.refl _ _ _⟩
  have hpos : 0 < s.size := by omega
  have t1 : (s.toList == []) = false := by
    rw [beq_eq_false_iff_ne]
    intro e
    apply h0
    have := congrArg List.length e
    rw [Lib.toList_data] at this
    simpa using this
  have hpz : (0 : Int) < (s.size : Int) := by omega
  cases hq : ((s[0].toNat : Int) == 35) with
  | true =>
    have hb : s[0] = 35 := by
      have h' : (s[0].toNat : Int) = 35 := by simpa using hq
      exact UInt8.toNat_inj.1 (by have : (35 : UInt8).toNat = 35 := rfl; omega)
    have HN := Lib.hid (HD.out (by rw [noteB_at hpos, hb]; rfl))
    clear hb
    go_enter Tryd.func48, Tryd.ntmps48
    go_wp2
    go_ret
    exact ⟨by rw [HN.out]; rfl, by rw [HN.out]; exact H0.out, Fr.refl _ _ _⟩
  | false =>
    have hnb : noteB s = false := by
      rw [noteB_at hpos]
      apply decide_eq_false
      intro e
      rw [e] at hq
      simp at hq
    have hx := HR.out
    rw [if_neg (by rw [hnb]; simp)] at hx
    have HX := Lib.hid hx
    clear hx HR HD hnb
    go_enter Tryd.func48, Tryd.ntmps48
    go_wp2_with fail
    refine (cutPrefix_any s ⟨#[9]⟩ w (by omega)).mono ?_
    rintro e w' ⟨rfl, rfl⟩
    have e9 : (⟨#[9]⟩ : ByteArray).data.toList = [9] := rfl
    rw [e9]
    cases h9 : Lib.hasPrefix s.data.toList [9] with
    | true =>
      have hx := HX.out
      rw [if_pos h9] at hx
      have HY := Lib.hid hx
      clear hx HX
      have e1 : (if true = true then s.extract (⟨#[9]⟩ : ByteArray).size s.size else s) = s.extract 1 s.size := rfl
      rw [e1]
      have hz : (s.extract 1 s.size).size ≤ 1000 := by rw [ByteArray.size_extract]; omega
      go_wp2_with fail
      generalize s.extract 1 s.size = q at *
      refine (addCommand_any B g m q w H0.out hB HG.out HMX.out HSN.out hz).mono ?_
      rw [← HY.out]
      rintro e w2 ⟨rfl, hm2, hf2⟩
      have HM := Lib.hid hm2
      have HF := Lib.hid hf2
      clear hm2 hf2
      go_wp2
      go_ret
      exact ⟨rfl, HM.out, HF.out⟩
    | false =>
      have hx := HX.out
      rw [if_neg (by rw [h9]; simp)] at hx
      have HY := Lib.hid hx
      clear hx HX
      have e1 : (if false = true then s.extract (⟨#[9]⟩ : ByteArray).size s.size else s) = s := rfl
      rw [e1]
      clear e1 e9
      go_wp2_with fail
      refine (cutPrefix_any s ⟨#[112, 104, 111, 110, 121, 32]⟩ w (by omega)).mono ?_
      rintro e w' ⟨rfl, rfl⟩
      have e9 : (⟨#[112, 104, 111, 110, 121, 32]⟩ : ByteArray).data.toList = [112, 104, 111, 110, 121, 32] := rfl
      rw [e9]
      cases h6 : Lib.hasPrefix s.data.toList [112, 104, 111, 110, 121, 32] with
      | true =>
        have hx := HY.out
        rw [if_pos h6] at hx
        have HZ := Lib.hid hx
        clear hx HY
        have e1 : (if true = true then s.extract (⟨#[112, 104, 111, 110, 121, 32]⟩ : ByteArray).size s.size else s) = s.extract 6 s.size := rfl
        rw [e1]
        have hz : (s.extract 6 s.size).size ≤ 1000 := by rw [ByteArray.size_extract]; omega
        go_wp2_with fail
        generalize s.extract 6 s.size = q at *
        refine (addPhony_any B g m q w H0.out hB (Nat.le_trans HSN.out.phony (by omega)) (by omega)).mono ?_
        rw [← HZ.out]
        rintro e w2 ⟨rfl, hm2, hf2⟩
        have HM := Lib.hid hm2
        have HF := Lib.hid hf2
        clear hm2 hf2
        go_wp2
        go_ret
        exact ⟨rfl, HM.out, HF.out⟩
      | false =>
        have hx := HY.out
        rw [if_neg (by rw [h6]; simp)] at hx
        have HZ := Lib.hid hx
        clear hx HY
        have e1 : (if false = true then s.extract (⟨#[112, 104, 111, 110, 121, 32]⟩ : ByteArray).size s.size else s) = s := rfl
        rw [e1]
        clear e1 e9
        go_wp2_with fail
        refine (cut_any s ⟨#[32, 61, 32]⟩ [32, 61, 32] rfl w (by omega) HMX.out).mono ?_
        rintro e w2 ⟨j2, rfl, rfl⟩
        have hb2 := below_drewN w j2
        have HM2 := Lib.hid (H0.out.below hb2)
        have HF2 := Lib.hid (Fr.of_below (g := g) hb2 hB)
        have HX2 := Lib.hid (HMX.out.below hb2)
        have hB2 : B ≤ (w.drewN j2).heap.size := by have := hb2.size; omega
        clear hb2
        generalize w.drewN j2 = w2 at *
        unfold cutB
        have hcl := cut_fst_len s.data.toList [32, 61, 32]
        have hlen : s.data.toList.length = s.size := by simp
        rw [hlen] at hcl
        revert HZ hcl
        generalize Lib.cut s.data.toList [32, 61, 32] = cc
        obtain ⟨bf, af, fd⟩ := cc
        intro HZ hcl
        dsimp only at HZ hcl ⊢
        cases fd with
        | true =>
          have hx := HZ.out
          rw [if_pos (by trivial)] at hx
          have HW := Lib.hid hx
          clear hx HZ
          have hbz : (ba bf).size ≤ 600 := by rw [ba_size]; omega
          go_wp2_with fail
          refine (addVar_any B g m (ba bf) (ba af) w2 HM2.out hB2 (Nat.le_trans HSN.out.vars (by omega)) (by omega)).mono ?_
          rw [← HW.out]
          rintro e w3 ⟨rfl, hm3, hf3⟩
          have HM := Lib.hid hm3
          have HF := Lib.hid (HF2.out.trans hf3)
          clear hm3 hf3
          go_wp2
          go_ret
          exact ⟨rfl, HM.out, HF.out⟩
        | false =>
          have hx := HZ.out
          rw [if_neg (by simp)] at hx
          have HW := Lib.hid hx
          clear hx HZ
          go_wp2_with fail
          refine (addRule_any B g m s w2 HM2.out hB2 HG.out HX2.out HSN.out (by omega)).mono ?_
          rw [← HW.out]
          rintro e w3 ⟨rfl, hm3, hf3⟩
          have HM := Lib.hid hm3
          have HF := Lib.hid (HF2.out.trans hf3)
          clear hm3 hf3
          go_wp2
          go_ret
          exact ⟨rfl, HM.out, HF.out⟩
end Go.Proofs.YtkkoflbeggdblaaDoor
namespace Go.Proofs.YtkkoflbeggdblaaDoor
open Go.RowKit

theorem txtKeyed : Maps.Keyed Tryd.prog 9 := Maps.string_keyed Tryd.underlying9
theorem txtKey (s : ByteArray) (hs : s.size ≤ maxLen) : keyOf Tryd.prog 9 (.string s) = some (.string s.data.toList) := WideMaps.keyOf_string_mk Tryd.underlying9 hs
theorem zeroB (w : World) : (zeroValue 4).run Tryd.prog w = .ok (.bool false) w := by kernel_rfl
theorem plainElem_bool_inv {H : Type} {P : Program} {e : TypeId} (he : P.underlying e = some .bool) {v : Value} {z : DataW H × List MemPlace} (h : plainElem P e v = some z) : ∃ x, v = .bool x ∧ z = (.lit (.bool x), []) := by
  unfold plainElem at h
  rw [he] at h
  cases v <;> simp at h
  exact ⟨_, rfl, h.symm⟩
/-- The map at block bm holds 'true' at just the texts of L. -/
def SetOk (w : World) (bm n : Nat) (L : List ByteArray) : Prop := ∃ D : DataW Unit, w.ownsMap Tryd.prog 9 (plainElem Tryd.prog 4) bm n D ∧ ∀ s : ByteArray, s.size ≤ maxLen → D.atKey (.string s.data.toList) (.lit (.bool false)) = .lit (.bool (inT L s))
section
variable {w w' : World} {bm n : Nat} {L : List ByteArray}
theorem SetOk.made (w : World) : SetOk (w.alloc (.map #[] 0)) w.heap.size 0 [] := ⟨.map [], World.ownsMap_made _ _ _ _, fun s _ => rfl⟩
theorem SetOk.kept {row : Option Nat} (h : SetOk w bm n L) (hg : w.grownBy w' row) (hne : some bm ≠ row) : SetOk w' bm n L := by
  obtain ⟨D, ho, hh⟩ := h
  exact ⟨D, ho.kept hg hne, hh⟩
theorem SetOk.below (h : SetOk w bm n L) (hb : Below w.heap.size w w') : SetOk w' bm n L := h.kept (grown_of_below hb) (by simp)
theorem SetOk.lt (h : SetOk w bm n L) : bm < w.heap.size := by obtain ⟨D, ho, _⟩ := h; exact ho.lt
theorem SetOk.block (h : SetOk w bm n L) : ∃ es c, w.heap[bm]? = some (.map es c) := by
  obtain ⟨D, ⟨es, c, hb, _⟩, _⟩ := h
  exact ⟨es, c, hb⟩
theorem SetOk.look (h : SetOk w bm n L) (s : ByteArray) (hs : s.size ≤ maxLen) : (Instr.lookup 95 (.map (some bm)) (.string s) false).run Tryd.prog w = .ok (.bool (inT L s)) w := by
  obtain ⟨D, ho, hh⟩ := h
  obtain ⟨v, ps, hrun, hv⟩ := ho.lookup txtKeyed Tryd.underlying95 (zeroB w) (plainElem_bool Tryd.underlying4 false) (txtKey s hs)
  obtain ⟨x, rfl, e⟩ := plainElem_bool_inv Tryd.underlying4 hv
  rw [hh s hs] at e
  simp only [Prod.mk.injEq, DataW.lit.injEq, Lit.bool.injEq] at e
  rw [hrun, e.1]
theorem inT_snoc (L : List ByteArray) (s x : ByteArray) : inT (L ++ [s]) x = (inT L x || decide (s = x)) := by
  unfold inT
  rw [List.any_append]
  congr 1
  rw [Bool.eq_iff_iff]
  simp
set_option maxRecDepth 100000 in
theorem SetOk.store (h : SetOk w bm n L) (s : ByteArray) (hs : s.size ≤ maxLen) (hn : n < maxLen) :
    ∃ w', (Instr.mapUpdate 95 (.map (some bm)) (.string s) (.bool true)).run Tryd.prog w = .ok () w' ∧ SetOk w' bm (n + 1) (L ++ [s]) ∧ w.grownBy w' (some bm) := by
  obtain ⟨D, ho, hh⟩ := h
  obtain ⟨w', hrun, ho', hg⟩ := ho.store txtKeyed Tryd.underlying95 hn (txtKey s hs) (plainElem_bool Tryd.underlying4 true)
  refine ⟨w', hrun, ⟨_, ho', fun x hx => ?_⟩, hg.grown⟩
  rw [inT_snoc]
  by_cases e : s = x
  · subst e
    rw [Maps.atKey_put_same ho.isMap (txtKeyed.key (txtKey s hs))]
    simp
  · have hne : Lit.string x.data.toList ≠ Lit.string s.data.toList := fun h => e (by injection h with h; rw [← ba_of s, ← ba_of x, h])
    rw [Maps.atKey_put_other hne, hh x hx, decide_eq_false e, Bool.or_false]
end

/-- A slice that reads as rules' cells. -/
def RdR (w : World) (B : Nat) (A : Option Addr) (n c : Nat) (R : List Row3) : Prop :=
  R.length = n ∧ n ≤ c ∧ c ≤ maxLen ∧ (0 < n → ∃ b off, A = some ⟨b, off, none⟩ ∧ b < B ∧ ∀ j u, (rcells R)[j]? = some u → w.cell? ⟨b, off + j, none⟩ = some u)
theorem RdR.belowS {w w' : World} {A : Option Addr} {n c : Nat} {R : List Row3} (h : RdR w w.heap.size A n c R) (hb : Below w.heap.size w w') : RdR w' w'.heap.size A n c R :=
  ⟨h.1, h.2.1, h.2.2.1, fun hn => by
    obtain ⟨b, off, e, hbb, hc⟩ := h.2.2.2 hn
    exact ⟨b, off, e, Nat.lt_of_lt_of_le hbb hb.size, fun j u hu => (hb.cell (p := ⟨b, off + j, none⟩) hbb).trans (hc j u hu)⟩⟩
theorem RdR.past_map {w w' : World} {bm n c : Nat} {A : Option Addr} {R : List Row3} (h : RdR w w.heap.size A n c R) (hb : ∃ es c, w.heap[bm]? = some (.map es c)) (hg : w.grownBy w' (some bm)) : RdR w' w'.heap.size A n c R :=
  ⟨h.1, h.2.1, h.2.2.1, fun hn => by
    obtain ⟨b, off, e, hbb, hc⟩ := h.2.2.2 hn
    exact ⟨b, off, e, Nat.lt_of_lt_of_le hbb hg.size, fun j u hu => cell_past_map hb hg (hc j u hu)⟩⟩
theorem RdS.past_map {w w' : World} {bm n c : Nat} {A : Option Addr} {l : List ByteArray} (h : RdS w w.heap.size A n c l) (hb : ∃ es c, w.heap[bm]? = some (.map es c)) (hg : w.grownBy w' (some bm)) : RdS w' w'.heap.size A n c l :=
  ⟨h.1, h.2.1, h.2.2.1, fun hn => by
    obtain ⟨b, off, e, hbb, hc⟩ := h.2.2.2 hn
    exact ⟨b, off, e, Nat.lt_of_lt_of_le hbb hg.size, fun j u hu => cell_past_map hb hg (hc j u hu)⟩⟩
theorem RdR.of_own {w : World} {B : Nat} {v : Value} {R : List Row3} (h : w.ownsRow B 89 3 v R.length (rcells R)) : ∃ A c, v = .slice A R.length c ∧ RdR w w.heap.size A R.length c R := by
  rcases h.2 with ⟨rfl, h0⟩ | ⟨g, cap, cur, rfl, hb, hh, hn, hm, hs, ht⟩
  · rw [h0]
    exact ⟨none, 0, rfl, h0, Nat.le_refl _, Nat.zero_le _, fun h => by omega⟩
  · refine ⟨_, cap, rfl, rfl, hn, hm, fun _ => ⟨g, 0, rfl, (Array.getElem?_eq_some_iff.1 hh).1, fun j u hu => ?_⟩⟩
    have := h.cells (g := g) rfl j u hu
    rwa [Go.WideShapes.add_plain] at this
theorem RdR.at_ {w : World} {B : Nat} {A : Option Addr} {n c : Nat} {R : List Row3} (h : RdR w B A n c R) {i : Nat} {x : Row3} (hi : R[i]? = some x) : ∃ b off, A = some ⟨b, off, none⟩ ∧ b < B ∧ w.cell? ⟨b, off + i * 3, none⟩ = some x.1 ∧ w.cell? ⟨b, off + i * 3 + 1, none⟩ = some x.2.1 ∧ w.cell? ⟨b, off + i * 3 + 2, none⟩ = some x.2.2 := by
  have hl : i < R.length := (List.getElem?_eq_some_iff.1 hi).1
  obtain ⟨b, off, e, hb, hc⟩ := h.2.2.2 (by have := h.1; omega)
  obtain ⟨h1, h2, h3⟩ := rcells_at hi
  exact ⟨b, off, e, hb, hc _ _ h1, hc _ _ h2, hc _ _ h3⟩
/-- A value that reads as texts. -/
def Sl (w : World) (v : Value) (l : List ByteArray) : Prop := ∃ A c, v = .slice A l.length c ∧ RdS w w.heap.size A l.length c l
theorem Sl.belowS {w w' : World} {v : Value} {l : List ByteArray} (h : Sl w v l) (hb : Below w.heap.size w w') : Sl w' v l := by obtain ⟨A, c, e, hr⟩ := h; exact ⟨A, c, e, hr.belowS hb⟩
theorem Sl.past_map {w w' : World} {bm : Nat} {v : Value} {l : List ByteArray} (h : Sl w v l) (hb : ∃ es c, w.heap[bm]? = some (.map es c)) (hg : w.grownBy w' (some bm)) : Sl w' v l := by obtain ⟨A, c, e, hr⟩ := h; exact ⟨A, c, e, hr.past_map hb hg⟩
theorem Sl.own {w : World} {B : Nat} {v : Value} {l : List ByteArray} (h : Own1 w B v l) : Sl w v l := RdS.of_own h
/-- A description as it is read. -/
structure MkRd (w : World) (m : Mk) (vv vr vp : Value) (R : List Row3) : Prop where
  vars : ∃ A c, vv = .slice A m.vars.length c ∧ RdF w w.heap.size A m.vars.length c m.vars
  rules : ∃ A c, vr = .slice A R.length c ∧ RdR w w.heap.size A R.length c R
  len : R.length = m.rules.length
  each : ∀ (i : Nat) (x : Row3) (u : Ru), R[i]? = some x → m.rules[i]? = some u → Sl w x.1 u.1 ∧ Sl w x.2.1 u.2.1 ∧ Sl w x.2.2 u.2.2
  phony : Sl w vp m.phony
section
variable {w w' : World} {B g : Nat} {m : Mk} {vv vr vp : Value} {R : List Row3}
theorem MkOk.rd (h : MkOk w B g m vv vr vp R) : MkRd w m vv vr vp R :=
  ⟨h.rdVars, RdR.of_own h.rules, h.len, fun i x u hx hu => by obtain ⟨a, b, c⟩ := h.each i x u hx hu; exact ⟨Sl.own a, Sl.own b, Sl.own c⟩, Sl.own h.phony⟩
theorem MkRd.belowS (h : MkRd w m vv vr vp R) (hb : Below w.heap.size w w') : MkRd w' m vv vr vp R := by
  obtain ⟨A, c, e, hr⟩ := h.vars
  obtain ⟨A2, c2, e2, hr2⟩ := h.rules
  exact ⟨⟨A, c, e, hr.belowS hb⟩, ⟨A2, c2, e2, hr2.belowS hb⟩, h.len, fun i x u hx hu => by obtain ⟨a, b, c⟩ := h.each i x u hx hu; exact ⟨a.belowS hb, b.belowS hb, c.belowS hb⟩, h.phony.belowS hb⟩
theorem MkRd.past_map {bm : Nat} (h : MkRd w m vv vr vp R) (hb : ∃ es c, w.heap[bm]? = some (.map es c)) (hg : w.grownBy w' (some bm)) : MkRd w' m vv vr vp R := by
  obtain ⟨A, c, e, hr⟩ := h.vars
  obtain ⟨A2, c2, e2, hr2⟩ := h.rules
  exact ⟨⟨A, c, e, hr.past_map hb hg⟩, ⟨A2, c2, e2, hr2.past_map hb hg⟩, h.len, fun i x u hx hu => by obtain ⟨a, b, c⟩ := h.each i x u hx hu; exact ⟨a.past_map hb hg, b.past_map hb hg, c.past_map hb hg⟩, h.phony.past_map hb hg⟩
end
theorem mkRd0 (w : World) : MkRd w mk0 (.slice none 0 0) (.slice none 0 0) (.slice none 0 0) [] :=
  ⟨⟨none, 0, rfl, RdF.nil _ _⟩, ⟨none, 0, rfl, rfl, Nat.le_refl _, Nat.zero_le _, fun h => by simp at h⟩, rfl, fun i x u hx => by simp at hx, ⟨none, 0, rfl, RdS.nil _ _⟩⟩

def AgRel (made T : List ByteArray) (i : Value) : Prop := ∃ k : Nat, k ≤ T.length ∧ i = .int .i64 k ∧ ∀ j x, j < k → T[j]? = some x → inT made x = false
theorem agrees_bad {phony made : List ByteArray} {u : Ru} {k : Nat} {x : ByteArray} (hx : u.1[k]? = some x) (h : inT made x = true) : agreesR phony made u = false := by
  unfold agreesR
  have : (u.1.all fun t => !inT made t) = false := by
    rw [List.all_eq_false]
    exact ⟨x, List.mem_of_getElem? hx, by simp [h]⟩
  rw [this]
  rfl
theorem agrees_rest {phony made : List ByteArray} {u : Ru} (h : ∀ j x, j < u.1.length → u.1[j]? = some x → inT made x = false) :
    agreesR phony made u = (!inAt phony u.1 1 && (inAt phony u.1 0 == decide (u.2.2.length = 0))) := by
  unfold agreesR
  have : (u.1.all fun t => !inT made t) = true := by
    rw [List.all_eq_true]
    intro x hx
    obtain ⟨j, hj, e⟩ := List.mem_iff_getElem.1 hx
    rw [h j x hj (by rw [List.getElem?_eq_getElem hj, e])]
    rfl
  rw [this, Bool.true_and]

set_option maxHeartbeats 2000000 in
set_option maxRecDepth 100000 in
theorem agrees_any (bp bd np nd nt nc ct cc : Nat) (At Ac : Option Addr) (vn : Value) (hvn : ∃ A n c, vn = .slice A n c) (phony made : List ByteArray) (u : Ru) (w : World) (hT : RdS w w.heap.size At nt ct u.1) (hc : u.2.2.length = nc) (hcb : nc ≤ 1000000) (hp : SetOk w bp np phony) (hd : SetOk w bd nd made) (hnt : nt ≤ 1000000) (hsz : ∀ x ∈ u.1, x.size ≤ 1000000) :
    Calls Tryd.prog 51 #[.agg #[.slice At nt ct, vn, .slice Ac nc cc], .map (some bp), .map (some bd)] w fun e w' => e = .returned (.bool (agreesR phony made u)) ∧ Below w.heap.size w w' := by
  obtain ⟨An, nn, cn, rfl⟩ := hvn
  obtain ⟨b, hb⟩ : ∃ b, b = agreesR phony made u := ⟨_, rfl⟩
  rw [← hb]
  have HB := Lib.hid hb
  clear hb
  have hba : Below w.heap.size w (w.alloc (.cells #[.slice At nt ct, .slice An nn cn, .slice Ac nc cc] 89)) := (Below.refl _ _).alloc (Nat.le_refl _) _
  have hc0 : (w.alloc (.cells #[.slice At nt ct, .slice An nn cn, .slice Ac nc cc] 89)).cell? ⟨w.heap.size, 0, none⟩ = some (.slice At nt ct) := by rw [World.cell?_alloc_at _ _ _ _ rfl]; rfl
  have hc2 : (w.alloc (.cells #[.slice At nt ct, .slice An nn cn, .slice Ac nc cc] 89)).cell? ⟨w.heap.size, 2, none⟩ = some (.slice Ac nc cc) := by rw [World.cell?_alloc_at _ _ _ _ rfl]; rfl
  have HT := Lib.hid (hT.belowS hba)
  have HP := Lib.hid (hp.below hba)
  have HD := Lib.hid (hd.below hba)
  have HBA := Lib.hid hba
  have HL := Lib.hid hT.1
  have HSZ := Lib.hid hsz
  have HC := Lib.hid hc
  clear hT hp hd hba hsz hc
  go_enter Tryd.func51, Tryd.ntmps51
  go_wp2_with fail
  generalize w.alloc (.cells #[.slice At nt ct, .slice An nn cn, .slice Ac nc cc] 89) = w1 at *
  go_loop [13] (fun i => AgRel made u.1 i) (fun i => nt - (intOf i).toNat)
  case atStart => exact ⟨0, Nat.zero_le _, rfl, fun j x h => by omega⟩
  case round =>
    obtain ⟨k, hk, rfl, hno⟩ := hrel
    have hkn : k ≤ nt := by rw [← HL.out]; exact hk
    clear hk
    have HNO := Lib.hid hno
    clear hno
    by_cases hlt : k < nt
    · obtain ⟨x, hx⟩ : ∃ x, u.1[k]? = some x := ⟨_, List.getElem?_eq_getElem (by rw [HL.out]; exact hlt)⟩
      obtain ⟨b', off, rfl, _, hcx⟩ := HT.out.at_ hx
      have hkz : (k : Int) < (nt : Int) := by omega
      have hxs : x.size ≤ 1000000 := HSZ.out x (List.mem_of_getElem? hx)
      have HX := Lib.hid hx
      clear hx
      have hlk := HD.out.look x (by unfold maxLen; omega)
      cases hin : inT made x with
      | true =>
        rw [hin] at hlk
        have H1 := Lib.hid (HB.out.trans (agrees_bad HX.out hin))
        go_wp2
        go_ret
        exact ⟨by rw [H1.out]; rfl, HBA.out⟩
      | false =>
        rw [hin] at hlk
        go_wp2
        go_round
        case rel =>
          refine ⟨k + 1, by rw [HL.out]; omega, by go_num, fun j y hj hy => ?_⟩
          rcases Nat.lt_or_ge j k with h1 | h1
          · exact HNO.out j y h1 hy
          · obtain rfl : j = k := by omega
            rw [HX.out] at hy
            injection hy with hy
            rw [← hy]
            exact hin
        case measure => simp [intOf]; omega
    · obtain rfl : k = nt := by omega
      have hrest := HB.out.trans (agrees_rest (phony := phony) (fun j x hj hx => HNO.out j x (by rw [← HL.out]; exact hj) hx))
      have HRE := Lib.hid hrest
      clear hrest
      have z0 : 0 < k → ∃ b0 o0 x0, At = some ⟨b0, o0, none⟩ ∧ u.1[0]? = some x0 ∧ w1.cell? ⟨b0, o0, none⟩ = some (.string x0) ∧ (Instr.lookup 95 (.map (some bp)) (.string x0) false).run Tryd.prog w1 = .ok (.bool (inT phony x0)) w1 := fun h => by
        obtain ⟨x0, hx0⟩ : ∃ x0, u.1[0]? = some x0 := ⟨_, List.getElem?_eq_getElem (by rw [HL.out]; exact h)⟩
        obtain ⟨b0, o0, e, _, hcx⟩ := HT.out.at_ hx0
        exact ⟨b0, o0, x0, e, hx0, hcx, HP.out.look x0 (by have := HSZ.out x0 (List.mem_of_getElem? hx0); unfold maxLen; omega)⟩
      have z1 : 1 < k → ∃ b0 o0 x1, At = some ⟨b0, o0, none⟩ ∧ u.1[1]? = some x1 ∧ w1.cell? ⟨b0, o0 + 1, none⟩ = some (.string x1) ∧ (Instr.lookup 95 (.map (some bp)) (.string x1) false).run Tryd.prog w1 = .ok (.bool (inT phony x1)) w1 := fun h => by
        obtain ⟨x1, hx1⟩ : ∃ x1, u.1[1]? = some x1 := ⟨_, List.getElem?_eq_getElem (by rw [HL.out]; exact h)⟩
        obtain ⟨b0, o0, e, _, hcx⟩ := HT.out.at_ hx1
        exact ⟨b0, o0, x1, e, hx1, hcx, HP.out.look x1 (by have := HSZ.out x1 (List.mem_of_getElem? hx1); unfold maxLen; omega)⟩
      have hcz : ((nc : Int) == 0) = decide (u.2.2.length = 0) := by rw [HC.out, Bool.eq_iff_iff]; simp
      have HCZ := Lib.hid hcz
      clear hcz
      by_cases hk0 : k = 0
      · have n1 : inAt phony u.1 1 = false := by unfold inAt; rw [List.getElem?_eq_none (by rw [HL.out]; omega)]
        have n0 : inAt phony u.1 0 = false := by unfold inAt; rw [List.getElem?_eq_none (by rw [HL.out]; omega)]
        have hre := HRE.out
        rw [n1, n0] at hre
        have HR2 := Lib.hid hre
        clear hre n1 n0 z0 z1
        subst hk0
        go_wp2
        go_ret
        exact ⟨by rw [HR2.out, ← HCZ.out]; simp, HBA.out⟩
      obtain ⟨b0, o0, x0, rfl, hx0, hcx0, hlk0⟩ := z0 (by omega)
      have n0 : inAt phony u.1 0 = inT phony x0 := by unfold inAt; rw [hx0]
      have hre := HRE.out
      rw [n0] at hre
      have t0 : (0 : Int) < (k : Int) := by omega
      by_cases hk1 : k = 1
      · have n1 : inAt phony u.1 1 = false := by unfold inAt; rw [List.getElem?_eq_none (by rw [HL.out]; omega)]
        rw [n1] at hre
        have HR2 := Lib.hid hre
        clear hre n1 n0 z0 z1 hx0
        have t1 : decide ((1 : Int) < (k : Int)) = false := decide_eq_false (by omega)
        have HK0 := Lib.hid hk1
        clear hk1
        generalize inT phony x0 = i0 at *
        go_wp2
        go_ret
        exact ⟨by rw [HR2.out, ← HCZ.out]; simp, HBA.out⟩
      obtain ⟨b1, o1, x1, e1, hx1, hcx1, hlk1⟩ := z1 (by omega)
      injection e1 with e1
      injection e1 with e1 e2
      subst e1
      subst e2
      have n1 : inAt phony u.1 1 = inT phony x1 := by unfold inAt; rw [hx1]
      rw [n1] at hre
      have t1 : (1 : Int) < (k : Int) := by omega
      have HR2 := Lib.hid hre
      clear hre n1 n0 z0 z1 hx0 hx1
      cases hi1 : inT phony x1 with
      | true =>
        rw [hi1] at hlk1
        have hre := HR2.out
        rw [hi1] at hre
        have HR3 := Lib.hid hre
        clear hre
        go_wp2
        go_ret
        exact ⟨by rw [HR3.out]; rfl, HBA.out⟩
      | false =>
        rw [hi1] at hlk1
        have hre := HR2.out
        rw [hi1] at hre
        have HR3 := Lib.hid hre
        clear hre
        generalize inT phony x0 = i0 at *
        go_wp2
        go_ret
        exact ⟨by rw [HR3.out, ← HCZ.out]; simp, HBA.out⟩
end Go.Proofs.YtkkoflbeggdblaaDoor
