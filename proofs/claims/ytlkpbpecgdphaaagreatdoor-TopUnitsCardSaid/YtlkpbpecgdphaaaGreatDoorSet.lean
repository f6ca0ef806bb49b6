/-
  WORDS FOR MEMORY: a set of texts kept as a map of bools; a description as it is read. WALK: makefile.agrees.
-/
import Derived.Test.YtlkpbpecgdphaaaGreatDoorAddLine
import Derived.Maps.OwnSet
namespace Go.Proofs.YtlkpbpecgdphaaaGreatDoor
open Go.RowKit

theorem txtKeyed : Maps.Keyed Tryz.prog 9 := Maps.string_keyed Tryz.underlying9
theorem txtKey (s : ByteArray) (hs : s.size ≤ maxLen) : keyOf Tryz.prog 9 (.string s) = some (.string s.data.toList) := WideMaps.keyOf_string_mk Tryz.underlying9 hs
theorem zeroB (w : World) : (zeroValue 4).run Tryz.prog w = .ok (.bool false) w := by kernel_rfl
theorem plainElem_bool_inv {H : Type} {P : Program} {e : TypeId} (he : P.underlying e = some .bool) {v : Value} {z : DataW H × List MemPlace} (h : plainElem P e v = some z) : ∃ x, v = .bool x ∧ z = (.lit (.bool x), []) := by
  unfold plainElem at h
  rw [he] at h
  cases v <;> simp at h
  exact ⟨_, rfl, h.symm⟩
/-- The map at block bm holds 'true' at just the texts of L. -/
def SetOk (w : World) (bm n : Nat) (L : List ByteArray) : Prop := ∃ D : DataW Unit, w.ownsMap Tryz.prog 9 (plainElem Tryz.prog 4) bm n D ∧ ∀ s : ByteArray, s.size ≤ maxLen → D.atKey (.string s.data.toList) (.lit (.bool false)) = .lit (.bool (inT L s))
section
variable {w w' : World} {bm n : Nat} {L : List ByteArray}
theorem SetOk.made (w : World) : SetOk (w.alloc (.map #[] 0)) w.heap.size 0 [] := ⟨.map [], World.ownsMap_made _ _ _ _, fun _s _ => rfl⟩
theorem SetOk.kept {row : Option Nat} (h : SetOk w bm n L) (hg : w.grownBy w' row) (hne : some bm ≠ row) : SetOk w' bm n L := by
  obtain ⟨D, ho, hh⟩ := h
  exact ⟨D, ho.kept hg hne, hh⟩
theorem SetOk.below (h : SetOk w bm n L) (hb : Below w.heap.size w w') : SetOk w' bm n L := h.kept (grown_of_below hb) (by simp)
theorem SetOk.lt (h : SetOk w bm n L) : bm < w.heap.size := by obtain ⟨D, ho, _⟩ := h; exact ho.lt
theorem SetOk.block (h : SetOk w bm n L) : ∃ es c, w.heap[bm]? = some (.map es c) := by
  obtain ⟨D, ⟨es, c, hb, _⟩, _⟩ := h
  exact ⟨es, c, hb⟩
theorem SetOk.look (h : SetOk w bm n L) (s : ByteArray) (hs : s.size ≤ maxLen) : (Instr.lookup 81 (.map (some bm)) (.string s) false).run Tryz.prog w = .ok (.bool (inT L s)) w := by
  obtain ⟨D, ho, hh⟩ := h
  obtain ⟨v, ps, hrun, hv⟩ := ho.lookup txtKeyed Tryz.underlying81 (zeroB w) (plainElem_bool Tryz.underlying4 false) (txtKey s hs)
  obtain ⟨x, rfl, e⟩ := plainElem_bool_inv Tryz.underlying4 hv
  rw [hh s hs] at e
  simp only [Prod.mk.injEq, DataW.lit.injEq, Lit.bool.injEq] at e
  rw [hrun, e.1]
theorem inT_snoc (L : List ByteArray) (s x : ByteArray) : inT (L ++ [s]) x = (inT L x || decide (s = x)) := by
  unfold inT
  rw [List.any_append]
  congr 1
  rw [Bool.eq_iff_iff]
  simp
set_option maxRecDepth 100000 in
theorem SetOk.store (h : SetOk w bm n L) (s : ByteArray) (hs : s.size ≤ maxLen) (hn : n < maxLen) :
    ∃ w', (Instr.mapUpdate 81 (.map (some bm)) (.string s) (.bool true)).run Tryz.prog w = .ok () w' ∧ SetOk w' bm (n + 1) (L ++ [s]) ∧ w.grownBy w' (some bm) := by
  obtain ⟨D, ho, hh⟩ := h
  obtain ⟨w', hrun, ho', hg⟩ := ho.store txtKeyed Tryz.underlying81 hn (txtKey s hs) (plainElem_bool Tryz.underlying4 true)
  refine ⟨w', hrun, ⟨_, ho', fun x hx => ?_⟩, hg.grown⟩
  rw [inT_snoc]
  by_cases e : s = x
  · subst e
    rw [Maps.atKey_put_same ho.isMap (txtKeyed.key (txtKey s hs))]
    simp
  · have hne : Lit.string x.data.toList ≠ Lit.string s.data.toList := fun h => e (by injection h with h; rw [← ba_of s, ← ba_of x, h])
    rw [Maps.atKey_put_other hne, hh x hx, decide_eq_false e, Bool.or_false]
end

/-- A slice that reads as rules' cells. -/
def RdR (w : World) (B : Nat) (A : Option Addr) (n c : Nat) (R : List Row3) : Prop :=
  R.length = n ∧ n ≤ c ∧ c ≤ maxLen ∧ (0 < n → ∃ b off, A = some ⟨b, off, none⟩ ∧ b < B ∧ ∀ j u, (rcells R)[j]? = some u → w.cell? ⟨b, off + j, none⟩ = some u)
theorem RdR.belowS {w w' : World} {A : Option Addr} {n c : Nat} {R : List Row3} (h : RdR w w.heap.size A n c R) (hb : Below w.heap.size w w') : RdR w' w'.heap.size A n c R :=
  ⟨h.1, h.2.1, h.2.2.1, fun hn => by
    obtain ⟨b, off, e, hbb, hc⟩ := h.2.2.2 hn
    exact ⟨b, off, e, Nat.lt_of_lt_of_le hbb hb.size, fun j u hu => (hb.cell (p := ⟨b, off + j, none⟩) hbb).trans (hc j u hu)⟩⟩
theorem RdR.past_map {w w' : World} {bm n c : Nat} {A : Option Addr} {R : List Row3} (h : RdR w w.heap.size A n c R) (hb : ∃ es c, w.heap[bm]? = some (.map es c)) (hg : w.grownBy w' (some bm)) : RdR w' w'.heap.size A n c R :=
  ⟨h.1, h.2.1, h.2.2.1, fun hn => by
    obtain ⟨b, off, e, hbb, hc⟩ := h.2.2.2 hn
    exact ⟨b, off, e, Nat.lt_of_lt_of_le hbb hg.size, fun j u hu => cell_past_map hb hg (hc j u hu)⟩⟩
theorem RdS.past_map {w w' : World} {bm n c : Nat} {A : Option Addr} {l : List ByteArray} (h : RdS w w.heap.size A n c l) (hb : ∃ es c, w.heap[bm]? = some (.map es c)) (hg : w.grownBy w' (some bm)) : RdS w' w'.heap.size A n c l :=
  ⟨h.1, h.2.1, h.2.2.1, fun hn => by
    obtain ⟨b, off, e, hbb, hc⟩ := h.2.2.2 hn
    exact ⟨b, off, e, Nat.lt_of_lt_of_le hbb hg.size, fun j u hu => cell_past_map hb hg (hc j u hu)⟩⟩
theorem RdR.of_own {w : World} {B : Nat} {v : Value} {R : List Row3} (h : w.ownsRow B 115 3 v R.length (rcells R)) : ∃ A c, v = .slice A R.length c ∧ RdR w w.heap.size A R.length c R := by
  rcases h.2 with ⟨rfl, h0⟩ | ⟨g, cap, cur, rfl, hb, hh, hn, hm, hs, ht⟩
  · rw [h0]
    exact ⟨none, 0, rfl, h0, Nat.le_refl _, Nat.zero_le _, fun h => by omega⟩
  · refine ⟨_, cap, rfl, rfl, hn, hm, fun _ => ⟨g, 0, rfl, (Array.getElem?_eq_some_iff.1 hh).1, fun j u hu => ?_⟩⟩
    have := h.cells (g := g) rfl j u hu
    rwa [Go.WideShapes.add_plain] at this
theorem RdR.at_ {w : World} {B : Nat} {A : Option Addr} {n c : Nat} {R : List Row3} (h : RdR w B A n c R) {i : Nat} {x : Row3} (hi : R[i]? = some x) : ∃ b off, A = some ⟨b, off, none⟩ ∧ b < B ∧ w.cell? ⟨b, off + i * 3, none⟩ = some x.1 ∧ w.cell? ⟨b, off + i * 3 + 1, none⟩ = some x.2.1 ∧ w.cell? ⟨b, off + i * 3 + 2, none⟩ = some x.2.2 := by
  have hl : i < R.length := (List.getElem?_eq_some_iff.1 hi).1
  obtain ⟨b, off, e, hb, hc⟩ := h.2.2.2 (by have := h.1; omega)
  obtain ⟨h1, h2, h3⟩ := rcells_at hi
  exact ⟨b, off, e, hb, hc _ _ h1, hc _ _ h2, hc _ _ h3⟩
/-- A value that reads as texts. -/
def Sl (w : World) (v : Value) (l : List ByteArray) : Prop := ∃ A c, v = .slice A l.length c ∧ RdS w w.heap.size A l.length c l
theorem Sl.belowS {w w' : World} {v : Value} {l : List ByteArray} (h : Sl w v l) (hb : Below w.heap.size w w') : Sl w' v l := by obtain ⟨A, c, e, hr⟩ := h; exact ⟨A, c, e, hr.belowS hb⟩
theorem Sl.past_map {w w' : World} {bm : Nat} {v : Value} {l : List ByteArray} (h : Sl w v l) (hb : ∃ es c, w.heap[bm]? = some (.map es c)) (hg : w.grownBy w' (some bm)) : Sl w' v l := by obtain ⟨A, c, e, hr⟩ := h; exact ⟨A, c, e, hr.past_map hb hg⟩
theorem Sl.own {w : World} {B : Nat} {v : Value} {l : List ByteArray} (h : Own1 w B v l) : Sl w v l := RdS.of_own h
/-- A description as it is read. -/
structure MkRd (w : World) (m : Mk) (vv vr vp : Value) (R : List Row3) : Prop where
  vars : ∃ A c, vv = .slice A m.vars.length c ∧ RdF w w.heap.size A m.vars.length c m.vars
  rules : ∃ A c, vr = .slice A R.length c ∧ RdR w w.heap.size A R.length c R
  len : R.length = m.rules.length
  each : ∀ (i : Nat) (x : Row3) (u : Ru), R[i]? = some x → m.rules[i]? = some u → Sl w x.1 u.1 ∧ Sl w x.2.1 u.2.1 ∧ Sl w x.2.2 u.2.2
  phony : Sl w vp m.phony
section
variable {w w' : World} {B g : Nat} {m : Mk} {vv vr vp : Value} {R : List Row3}
theorem MkOk.rd (h : MkOk w B g m vv vr vp R) : MkRd w m vv vr vp R :=
  ⟨h.rdVars, RdR.of_own h.rules, h.len, fun i x u hx hu => by obtain ⟨a, b, c⟩ := h.each i x u hx hu; exact ⟨Sl.own a, Sl.own b, Sl.own c⟩, Sl.own h.phony⟩
theorem MkRd.belowS (h : MkRd w m vv vr vp R) (hb : Below w.heap.size w w') : MkRd w' m vv vr vp R := by
  obtain ⟨A, c, e, hr⟩ := h.vars
  obtain ⟨A2, c2, e2, hr2⟩ := h.rules
  exact ⟨⟨A, c, e, hr.belowS hb⟩, ⟨A2, c2, e2, hr2.belowS hb⟩, h.len, fun i x u hx hu => by obtain ⟨a, b, c⟩ := h.each i x u hx hu; exact ⟨a.belowS hb, b.belowS hb, c.belowS hb⟩, h.phony.belowS hb⟩
theorem MkRd.past_map {bm : Nat} (h : MkRd w m vv vr vp R) (hb : ∃ es c, w.heap[bm]? = some (.map es c)) (hg : w.grownBy w' (some bm)) : MkRd w' m vv vr vp R := by
  obtain ⟨A, c, e, hr⟩ := h.vars
  obtain ⟨A2, c2, e2, hr2⟩ := h.rules
  exact ⟨⟨A, c, e, hr.past_map hb hg⟩, ⟨A2, c2, e2, hr2.past_map hb hg⟩, h.len, fun i x u hx hu => by obtain ⟨a, b, c⟩ := h.each i x u hx hu; exact ⟨a.past_map hb hg, b.past_map hb hg, c.past_map hb hg⟩, h.phony.past_map hb hg⟩
end
theorem mkRd0 (w : World) : MkRd w mk0 (.slice none 0 0) (.slice none 0 0) (.slice none 0 0) [] :=
  ⟨⟨none, 0, rfl, RdF.nil _ _⟩, ⟨none, 0, rfl, rfl, Nat.le_refl _, Nat.zero_le _, fun h => by simp at h⟩, rfl, fun i x u hx => by simp at hx, ⟨none, 0, rfl, RdS.nil _ _⟩⟩

def AgRel (made T : List ByteArray) (i : Value) : Prop := ∃ k : Nat, k ≤ T.length ∧ i = .int .i64 k ∧ ∀ j x, j < k → T[j]? = some x → inT made x = false
theorem agrees_bad {phony made : List ByteArray} {u : Ru} {k : Nat} {x : ByteArray} (hx : u.1[k]? = some x) (h : inT made x = true) : agreesR phony made u = false := by
  unfold agreesR
  have : (u.1.all fun t => !inT made t) = false := by
    rw [List.all_eq_false]
    exact ⟨x, List.mem_of_getElem? hx, by simp [h]⟩
  rw [this]
  rfl
theorem agrees_rest {phony made : List ByteArray} {u : Ru} (h : ∀ j x, j < u.1.length → u.1[j]? = some x → inT made x = false) :
    agreesR phony made u = (!inAt phony u.1 1 && (inAt phony u.1 0 == decide (u.2.2.length = 0))) := by
  unfold agreesR
  have : (u.1.all fun t => !inT made t) = true := by
    rw [List.all_eq_true]
    intro x hx
    obtain ⟨j, hj, e⟩ := List.mem_iff_getElem.1 hx
    rw [h j x hj (by rw [List.getElem?_eq_getElem hj, e])]
    rfl
  rw [this, Bool.true_and]

set_option maxHeartbeats 2000000 in
set_option maxRecDepth 100000 in
theorem agrees_any (bp bd np nd nt nc ct cc : Nat) (At Ac : Option Addr) (vn : Value) (hvn : ∃ A n c, vn = .slice A n c) (phony made : List ByteArray) (u : Ru) (w : World) (hT : RdS w w.heap.size At nt ct u.1) (hc : u.2.2.length = nc) (_hcb : nc ≤ 1000000) (hp : SetOk w bp np phony) (hd : SetOk w bd nd made) (hnt : nt ≤ 1000000) (hsz : ∀ x ∈ u.1, x.size ≤ 1000000) :
    Calls Tryz.prog 85 #[.agg #[.slice At nt ct, vn, .slice Ac nc cc], .map (some bp), .map (some bd)] w fun e w' => e = .returned (.bool (agreesR phony made u)) ∧ Below w.heap.size w w' := by
  obtain ⟨An, nn, cn, rfl⟩ := hvn
  obtain ⟨b, hb⟩ : ∃ b, b = agreesR phony made u := ⟨_, rfl⟩
  rw [← hb]
  have HB := Lib.hid hb
  clear hb
  have hba : Below w.heap.size w (w.alloc (.cells #[.slice At nt ct, .slice An nn cn, .slice Ac nc cc] 115)) := (Below.refl _ _).alloc (Nat.le_refl _) _
  have hc0 : (w.alloc (.cells #[.slice At nt ct, .slice An nn cn, .slice Ac nc cc] 115)).cell? ⟨w.heap.size, 0, none⟩ = some (.slice At nt ct) := by rw [World.cell?_alloc_at _ _ _ _ rfl]; rfl
  have hc2 : (w.alloc (.cells #[.slice At nt ct, .slice An nn cn, .slice Ac nc cc] 115)).cell? ⟨w.heap.size, 2, none⟩ = some (.slice Ac nc cc) := by rw [World.cell?_alloc_at _ _ _ _ rfl]; rfl
  have HT := Lib.hid (hT.belowS hba)
  have HP := Lib.hid (hp.below hba)
  have HD := Lib.hid (hd.below hba)
  have HBA := Lib.hid hba
  have HL := Lib.hid hT.1
  have HSZ := Lib.hid hsz
  have HC := Lib.hid hc
  clear hT hp hd hba hsz hc
  go_enter Tryz.func85, Tryz.ntmps85
  go_wp2_with fail
  generalize w.alloc (.cells #[.slice At nt ct, .slice An nn cn, .slice Ac nc cc] 115) = w1 at *
  go_loop [13] (fun i => AgRel made u.1 i) (fun i => nt - (intOf i).toNat)
  case atStart => exact ⟨0, Nat.zero_le _, rfl, fun j x h => by omega⟩
  case round =>
    obtain ⟨k, hk, rfl, hno⟩ := hrel
    have hkn : k ≤ nt := by rw [← HL.out]; exact hk
    clear hk
    have HNO := Lib.hid hno
    clear hno
    by_cases hlt : k < nt
    · obtain ⟨x, hx⟩ : ∃ x, u.1[k]? = some x := ⟨_, List.getElem?_eq_getElem (by rw [HL.out]; exact hlt)⟩
      obtain ⟨b', off, rfl, _, hcx⟩ := HT.out.at_ hx
      have hkz : (k : Int) < (nt : Int) := by omega
      have hxs : x.size ≤ 1000000 := HSZ.out x (List.mem_of_getElem? hx)
      have HX := Lib.hid hx
      clear hx
      have hlk := HD.out.look x (by unfold maxLen; omega)
      cases hin : inT made x with
      | true =>
        rw [hin] at hlk
        have H1 := Lib.hid (HB.out.trans (agrees_bad HX.out hin))
        go_wp2
        go_ret
        exact ⟨by rw [H1.out]; rfl, HBA.out⟩
      | false =>
        rw [hin] at hlk
        go_wp2
        go_round
        case rel =>
          refine ⟨k + 1, by rw [HL.out]; omega, by go_num, fun j y hj hy => ?_⟩
          rcases Nat.lt_or_ge j k with h1 | h1
          · exact HNO.out j y h1 hy
          · obtain rfl : j = k := by omega
            rw [HX.out] at hy
            injection hy with hy
            rw [← hy]
            exact hin
        case measure => simp [intOf]; omega
    · obtain rfl : k = nt := by omega
      have hrest := HB.out.trans (agrees_rest (phony := phony) (fun j x hj hx => HNO.out j x (by rw [← HL.out]; exact hj) hx))
      have HRE := Lib.hid hrest
      clear hrest
      have z0 : 0 < k → ∃ b0 o0 x0, At = some ⟨b0, o0, none⟩ ∧ u.1[0]? = some x0 ∧ w1.cell? ⟨b0, o0, none⟩ = some (.string x0) ∧ (Instr.lookup 81 (.map (some bp)) (.string x0) false).run Tryz.prog w1 = .ok (.bool (inT phony x0)) w1 := fun h => by
        obtain ⟨x0, hx0⟩ : ∃ x0, u.1[0]? = some x0 := ⟨_, List.getElem?_eq_getElem (by rw [HL.out]; exact h)⟩
        obtain ⟨b0, o0, e, _, hcx⟩ := HT.out.at_ hx0
        exact ⟨b0, o0, x0, e, hx0, hcx, HP.out.look x0 (by have := HSZ.out x0 (List.mem_of_getElem? hx0); unfold maxLen; omega)⟩
      have z1 : 1 < k → ∃ b0 o0 x1, At = some ⟨b0, o0, none⟩ ∧ u.1[1]? = some x1 ∧ w1.cell? ⟨b0, o0 + 1, none⟩ = some (.string x1) ∧ (Instr.lookup 81 (.map (some bp)) (.string x1) false).run Tryz.prog w1 = .ok (.bool (inT phony x1)) w1 := fun h => by
        obtain ⟨x1, hx1⟩ : ∃ x1, u.1[1]? = some x1 := ⟨_, List.getElem?_eq_getElem (by rw [HL.out]; exact h)⟩
        obtain ⟨b0, o0, e, _, hcx⟩ := HT.out.at_ hx1
        exact ⟨b0, o0, x1, e, hx1, hcx, HP.out.look x1 (by have := HSZ.out x1 (List.mem_of_getElem? hx1); unfold maxLen; omega)⟩
      have hcz : ((nc : Int) == 0) = decide (u.2.2.length = 0) := by rw [HC.out, Bool.eq_iff_iff]; simp
      have HCZ := Lib.hid hcz
      clear hcz
      by_cases hk0 : k = 0
      · have n1 : inAt phony u.1 1 = false := by unfold inAt; rw [List.getElem?_eq_none (by rw [HL.out]; omega)]
        have n0 : inAt phony u.1 0 = false := by unfold inAt; rw [List.getElem?_eq_none (by rw [HL.out]; omega)]
        have hre := HRE.out
        rw [n1, n0] at hre
        have HR2 := Lib.hid hre
        clear hre n1 n0 z0 z1
        subst hk0
        go_wp2
        go_ret
        exact ⟨by rw [HR2.out, ← HCZ.out]; simp, HBA.out⟩
      obtain ⟨b0, o0, x0, rfl, hx0, hcx0, hlk0⟩ := z0 (by omega)
      have n0 : inAt phony u.1 0 = inT phony x0 := by unfold inAt; rw [hx0]
      have hre := HRE.out
      rw [n0] at hre
      have t0 : (0 : Int) < (k : Int) := by omega
      by_cases hk1 : k = 1
      · have n1 : inAt phony u.1 1 = false := by unfold inAt; rw [List.getElem?_eq_none (by rw [HL.out]; omega)]
        rw [n1] at hre
        have HR2 := Lib.hid hre
        clear hre n1 n0 z0 z1 hx0
        have t1 : decide ((1 : Int) < (k : Int)) = false := decide_eq_false (by omega)
        have HK0 := Lib.hid hk1
        clear hk1
        generalize inT phony x0 = i0 at *
        go_wp2
        go_ret
        exact ⟨by rw [HR2.out, ← HCZ.out]; simp, HBA.out⟩
      obtain ⟨b1, o1, x1, e1, hx1, hcx1, hlk1⟩ := z1 (by omega)
      injection e1 with e1
      injection e1 with e1 e2
      subst e1
      subst e2
      have n1 : inAt phony u.1 1 = inT phony x1 := by unfold inAt; rw [hx1]
      rw [n1] at hre
      have t1 : (1 : Int) < (k : Int) := by omega
      have HR2 := Lib.hid hre
      clear hre n1 n0 z0 z1 hx0 hx1
      cases hi1 : inT phony x1 with
      | true =>
        rw [hi1] at hlk1
        have hre := HR2.out
        rw [hi1] at hre
        have HR3 := Lib.hid hre
        clear hre
        go_wp2
        go_ret
        exact ⟨by rw [HR3.out]; rfl, HBA.out⟩
      | false =>
        rw [hi1] at hlk1
        have hre := HR2.out
        rw [hi1] at hre
        have HR3 := Lib.hid hre
        clear hre
        generalize inT phony x0 = i0 at *
        go_wp2
        go_ret
        exact ⟨by rw [HR3.out, ← HCZ.out]; simp, HBA.out⟩
end Go.Proofs.YtlkpbpecgdphaaaGreatDoor
